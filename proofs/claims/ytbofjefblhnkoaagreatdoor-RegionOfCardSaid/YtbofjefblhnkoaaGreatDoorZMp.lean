/-
  THE MATES OF ALL RUNES, of the program: the loop.
  BRACKETS, of the program: the mate, the first one in the row, the pairs around a place; and of the reference the same.
  BRACKETS, of the reference: the first one in the row, the pairs around a place.
  BRACKETS: whatever arguments; what the laws' loops hold.
  MOTIONS: Go, by pairs.
-/
import Derived.Test.YtbofjefblhnkoaaGreatDoorZMo
import Derived.Test.YtbofjefblhnkoaaGreatDoorZMc
import Derived.Test.YtbofjefblhnkoaaGreatDoorZMi
set_option linter.unusedVariables false
namespace Go.Proofs.YtbofjefblhnkoaaGreatDoor
open Go Go.RowKit

theorem mls_o {t : List Int} {i k : Nat} (hk : k < 3) (h : t[i]? = some (Rw.opn k)) : Rw.mls t (i + 1) = (Rw.mls t i).set i (-1) :=
  Rw.mls_step (List.getElem?_eq_some_iff.1 h).1 (fun m hm => by rw [Rw.mate_open hk h] at hm; have := (Rw.fsc_ge _ _ _ _ hm).1; omega)
theorem mls_n {t : List Int} {i : Nat} {c : Int} (h : t[i]? = some c) (h1 : Rw.kdo c = none) (h2 : Rw.kds c = none) : Rw.mls t (i + 1) = (Rw.mls t i).set i (-1) :=
  Rw.mls_step (List.getElem?_eq_some_iff.1 h).1 (fun m hm => by rw [Rw.mate_none h h1 h2] at hm; cases hm)
theorem mls_e {t : List Int} {i k : Nat} (hk : k < 3) (h : t[i]? = some (Rw.sht k)) (hs : Rw.stk t k i = []) : Rw.mls t (i + 1) = (Rw.mls t i).set i (-1) :=
  Rw.mls_step (List.getElem?_eq_some_iff.1 h).1 (fun m hm => by rw [Rw.mate_shut hk h, hs] at hm; cases hm)
theorem mls_p {t : List Int} {i k p : Nat} {l : List Nat} (hk : k < 3) (h : t[i]? = some (Rw.sht k)) (hs : Rw.stk t k i = p :: l) : Rw.mls t (i + 1) = (((Rw.mls t i).set i (-1)).set i (p : Int)).set p (i : Int) :=
  Rw.mls_pair (List.getElem?_eq_some_iff.1 h).1 (by rw [Rw.mate_shut hk h, hs]; rfl) (Rw.stk_mem i p (by rw [hs]; simp)).1
theorem ownsRow_form {w : World} {B : Nat} {e : TypeId} {sz n : Nat} {v : Value} {xs : List Value} (h : w.ownsRow B e sz v n xs) : ∃ A c, v = .slice A n c := by
  rcases h.2 with ⟨rfl, rfl⟩ | ⟨g, cap, cur, rfl, _⟩
  · exact ⟨_, _, rfl⟩
  · exact ⟨_, _, rfl⟩
theorem grown_kept {S : Nat → Prop} {w w' : World} {row : Option Nat} (hg : w.grownBy w' row) (hS : ∀ b, row = some b → S b) : Kept S w w' := ⟨hg.os, hg.tape, hg.output, hg.size, fun q hq hne => hg.block q hq (fun e => hne (hS q e.symm))⟩
set_option maxRecDepth 100000 in
set_option maxHeartbeats 2000000 in
theorem mates_any (A : Option Addr) (n c : Nat) (t : List Int) (w : World) (hA : Rn w A n t) (hv : Vald t) (hn : n ≤ 6000) :
    Calls Tryz.prog 96 #[.slice A n c] w fun e w' => ∃ b, e = .returned (.slice (some ⟨b, 0, none⟩) n n) ∧ Nums w' (some ⟨b, 0, none⟩) n (Rw.mls t n) ∧ w.heap.size ≤ b ∧ Kept (fun _ => False) w w' := by
  obtain ⟨i0, hi, hz0, hz1, hz2⟩ := info_parts info_int
  obtain ⟨W0, hmk, hk0, hz, hO0⟩ := make_ints n w (by omega)
  have hlen := hA.1
  have HL := Lib.hid hlen
  have HA := Lib.hid hA
  have HV := Lib.hid hv
  have HO0 := Lib.hid hO0
  have HK0 := Lib.hid hk0
  have HZ := Lib.hid hz
  obtain ⟨lb, hlb⟩ : ∃ lb, w.heap.size = lb := ⟨_, rfl⟩
  have HLB := Lib.hid hlb
  rw [hlb] at hmk HO0
  clear hA hv hO0 hk0 hlen hz hlb
  go_enter Tryz.func96, Tryz.ntmps96
  go_upto_region 3 with fail
  have hS0 : Hid (Stk3 (W0.alloc (.cells #[.slice none 0 0, .slice none 0 0, .slice none 0 0] 155)) (lb + 2) W0.heap.size (XS t 0) (fun _ => .slice none 0 0)) :=
    ⟨⟨_, _, heap_alloc_new W0 _⟩, fun k hk => (cell_of_row _ _ _ _ _ _ (heap_alloc_new W0 _)).trans (match k, hk with | 0, _ => rfl | 1, _ => rfl | 2, _ => rfl), fun k hk => World.ownsRow_nil _ _ _ _, fun a b _ _ _ => .inl rfl, by have := HZ.out; have := HLB.out; omega⟩
  have hO1 : Hid (OwnN (W0.alloc (.cells #[.slice none 0 0, .slice none 0 0, .slice none 0 0] 155)) lb n (List.replicate n 0)) := HO0.out.kept ((Kept.refl (fun _ => False) W0).alloc _) id
  have hk1 : Hid (Kept (fun _ => False) w (W0.alloc (.cells #[.slice none 0 0, .slice none 0 0, .slice none 0 0] 155))) := HK0.out.alloc _
  have hB1 : Hid (lb + 2 ≤ (W0.alloc (.cells #[.slice none 0 0, .slice none 0 0, .slice none 0 0] 155)).heap.size) := by have := HZ.out; have := HLB.out; show _ ≤ _; simp; omega
  have hob' : Hid (W0.heap.size = lb + 1) := by have := HZ.out; have := HLB.out; show _ = _; omega
  clear HZ HK0 HO0 hmk
  generalize W0.alloc (.cells #[.slice none 0 0, .slice none 0 0, .slice none 0 0] 155) = W1 at *
  generalize W0.heap.size = ob at *
  go_wp2_with fail
  go_loopw [15] (fun v wr => ∃ (i : Nat) (s : Nat → Value), i ≤ n ∧ v = .int .i64 i ∧ OwnN wr lb n (Rw.mls t i) ∧ Stk3 wr (lb + 2) ob (XS t i) s ∧ lb + 2 ≤ wr.heap.size ∧ Kept (fun _ => False) w wr) (fun v _ => n - (intOf v).toNat)
  case atStart => exact ⟨0, fun _ => .slice none 0 0, Nat.zero_le _, rfl, by rw [Rw.mls_zero, HL.out]; exact hO1.out, hS0.out, hB1.out, hk1.out⟩
  case round =>
    obtain ⟨i, s, hin, rfl, hO, hS, hB, hkept⟩ := hrel
    have HK := Lib.hid hkept
    have HB := Lib.hid hB
    clear hkept hB
    by_cases hi' : i < n
    · obtain ⟨ad, x, rfl, hx, hcx⟩ := (HA.out.kept HK.out (fun _ _ => id)).cell hi'
      have hvx := HV.out x (List.mem_of_getElem? hx)
      have HX := Lib.hid hx
      obtain ⟨old, _, hold⟩ := hO.any hi'
      have hfr := hO.free i
      have hO2 := Lib.hid (hO.set hi' (-1))
      have hkl : Kept (fun b => b = lb) wr (wr.setCell ⟨lb, i, none⟩ (.int .i64 (-1))) := (Kept.refl (fun b => b = lb) wr).setCell (p := ⟨lb, i, none⟩) rfl _
      have hS2 := Lib.hid (hS.kept hkl (fun b e => by have := hob'.out; exact ⟨by omega, by omega⟩))
      have hK2 : Hid (Kept (fun _ => False) w (wr.setCell ⟨lb, i, none⟩ (.int .i64 (-1)))) := HK.out.fresh hkl (fun k hk e => by have := HLB.out; omega)
      have hB2 : Hid (lb + 2 ≤ (wr.setCell ⟨lb, i, none⟩ (.int .i64 (-1))).heap.size) := by have := HB.out; show _ ≤ _; simpa using this
      have hcx2 : (wr.setCell ⟨lb, i, none⟩ (.int .i64 (-1))).cell? (ad.add i) = some (.int .i32 x) := by
        obtain ⟨ad1, e1, h1⟩ := (HA.out.kept hK2.out (fun _ _ => id)).2 i x hx
        injection e1 with e1
        subst e1
        exact h1
      have b1 : decide (i < n) = true := decide_eq_true hi'
      have b2 : decide ((i : Int) < (n : Int)) = true := decide_eq_true (by omega)
      have t1 : (0 : Int) ≤ (i : Int) := by omega
      have t2 : (i : Int) < (n : Int) := by omega
      have hxl := XS_len t i
      clear hO hS hx
      go_upto_region 7 with fail
      clear hold hfr hkl HK HB
      generalize wr.setCell ⟨lb, i, none⟩ (.int .i64 (-1)) = W2 at *
      cases ho : Rw.kdo x with
      | some k =>
        obtain ⟨hxk, hk3⟩ := Rw.kdo_some ho
        have cO : ∀ W, Calls Tryz.prog 115 #[.string ⟨#[40, 91, 123]⟩, .int .i32 x] W fun e w' => e = .returned (.int .i64 (k : Int)) ∧ Kept (fun _ => False) W w' := fun W => by
          have := idxo_any x hvx W
          rw [ho] at this
          exact this
        have HXK : Hid (t[i]? = some (Rw.opn k)) := by show _ = _; rw [HX.out, hxk]
        clear ho hvx hxk
        go_upto_region 9 with (go_at_call 115; refine (cO _).mono ?_; rintro e w3 ⟨rfl, hk3w⟩)
        have HS3 := Lib.hid (hS2.out.kept hk3w (fun b e => e.elim))
        have HO3 := Lib.hid (hO2.out.kept hk3w id)
        have HK3 := Lib.hid (hK2.out.trans hk3w)
        have HB3 := Nat.le_trans hB2.out hk3w.size
        obtain ⟨A', c', hsk, hmc, _⟩ := HS3.out.form hk3
        have hown := HS3.out.own k hk3
        have g1 := HS3.out.cell k hk3
        have hm := hxl k
        obtain ⟨m, hmm⟩ : ∃ m, (XS t i k).length = m := ⟨_, rfl⟩
        obtain ⟨xs, hxs⟩ : ∃ xs, (XS t i k).map (Value.int .i64) = xs := ⟨_, rfl⟩
        have HMM := Lib.hid hmm
        have HXS := Lib.hid hxs
        have HSK := Lib.hid hsk
        rw [hsk] at g1
        rw [hsk, hmm, hxs] at hown
        rw [hmm] at g1 hm
        have t3 : (0 : Int) ≤ (k : Int) := by omega
        have t4 : (k : Int) < 3 := by omega
        clear cO hk3w hsk hmc hmm hxs hcx2 hcx hxl
        go_wp2_with (at_builtin; refine wpList_append_own_at _ rfl (.tmp 30) (.tmp 32) 37 rfl (lb + 2) 3 i0 (.int .i64 0) 1 8 Tryz.underlying37 hi hz0 hz1 hz2 rfl (by decide) _ _ _ rfl (hown.alloc _) ⟨_, 0, none⟩ 1 1 [.int .i64 (i : Int)] rfl rfl one_cell one_one (by unfold maxLen; omega) (by omega) (by simp; omega) ?_; intro v' w4 hown' hgrow _ hat; obtain ⟨A5, c5, rfl⟩ := ownsRow_form hown'; have hmid := HS3.out.mid hk3 (by rw [HSK.out, HMM.out]; exact hgrow); have m1 := hmid.1; have m2 := hmid.2; rw [HSK.out, HMM.out] at m1; have HP := Lib.hid (HS3.out.push hk3 (x := (i : Int)) (by rw [HSK.out, HMM.out]; exact hgrow) (by rw [HMM.out, HXS.out]; exact hown') (by rw [HSK.out, HMM.out]; exact hat)); have HK4 := Lib.hid (Kept.grew (HK3.out.alloc (.cells #[.int .i64 (i : Int)] 3)) hgrow (fun q hq => by have := (hown.lt q hq).1; have := HLB.out; omega)); have HKF : Hid (Kept (fun b => lb + 1 ≤ b) w3 (w4.setCell ⟨ob, k, none⟩ (.slice A5 (m + 1) c5))) := (((Kept.refl (fun b => lb + 1 ≤ b) w3).alloc _).trans (grown_kept hgrow (fun b hb => by have := (hown.lt b hb).1; omega))).setCell (p := ⟨ob, k, none⟩) (by have := hob'.out; show lb + 1 ≤ ob; omega) _; clear hown' hgrow hat hmid HK4)
        go_roundw
        case rel => exact ⟨i + 1, upd s k (.slice A5 (m + 1) c5), by omega, by go_num, by rw [mls_o hk3 HXK.out]; exact HO3.out.kept HKF.out (by omega), HP.out.congr (XS_open hk3 HXK.out), Nat.le_trans HB3 HKF.out.size, HK3.out.fresh HKF.out (fun q hq e => by have := HLB.out; omega)⟩
        case measure => simp [intOf] <;> omega
      | none =>
        have HON := Lib.hid ho
        have cO : ∀ W, Calls Tryz.prog 115 #[.string ⟨#[40, 91, 123]⟩, .int .i32 x] W fun e w' => e = .returned (.int .i64 (-1)) ∧ Kept (fun _ => False) W w' := fun W => by
          have := idxo_any x hvx W
          rw [ho] at this
          exact this
        cases hs' : Rw.kds x with
        | some k =>
          obtain ⟨hxk, hk3⟩ := Rw.kds_some hs'
          have cS : ∀ W, Calls Tryz.prog 115 #[.string ⟨#[41, 93, 125]⟩, .int .i32 x] W fun e w' => e = .returned (.int .i64 (k : Int)) ∧ Kept (fun _ => False) W w' := fun W => by
            have := idxs_any x hvx W
            rw [hs'] at this
            exact this
          have HXK : Hid (t[i]? = some (Rw.sht k)) := by show _ = _; rw [HX.out, hxk]
          have HCS := Lib.hid cS
          clear ho hs' hvx hxk cS
          go_upto_region 8 with (go_at_call 115; refine (cO _).mono ?_; rintro e w3 ⟨rfl, hk3w⟩)
          clear cO
          have cS := HCS.out
          go_upto_region 11 with (go_at_call 115; refine (cS _).mono ?_; rintro e w4 ⟨rfl, hk4w⟩)
          clear cS HCS
          have hk4 := hk3w.trans hk4w
          have HS3 := Lib.hid (hS2.out.kept hk4 (fun b e => e.elim))
          have HO3 := Lib.hid (hO2.out.kept hk4 id)
          have HK3 := Lib.hid (hK2.out.trans hk4)
          have HB3 := Nat.le_trans hB2.out hk4.size
          obtain ⟨A', c', hsk, hmc, hfm⟩ := HS3.out.form hk3
          have g1 := HS3.out.cell k hk3
          have t3 : (0 : Int) ≤ (k : Int) := by omega
          have t4 : (k : Int) < 3 := by omega
          have b3 : decide ((0 : Int) ≤ (k : Int)) = true := decide_eq_true t3
          clear hk3w hk4w hk4 hcx2 hcx
          cases hst : Rw.stk t k i with
          | nil =>
            have hX0 : (XS t i k).length = 0 := by unfold XS; rw [hst]; rfl
            have HST := Lib.hid hst
            rw [hsk, hX0] at g1
            clear hsk hmc hfm hst hxl hX0
            go_wp2_with fail
            go_roundw
            case rel => exact ⟨i + 1, s, by omega, by go_num, by rw [mls_e hk3 HXK.out HST.out]; exact HO3.out, HS3.out.congr (XS_empty hk3 HXK.out HST.out), HB3, HK3.out⟩
            case measure => simp [intOf] <;> omega
          | cons p l =>
            obtain ⟨hX, hXU⟩ := XS_shut hk3 HXK.out hst
            have HPP := Lib.hid (mls_p hk3 HXK.out hst)
            have hpi := (Rw.stk_mem i p (by rw [hst]; simp)).1
            obtain ⟨ys, hys⟩ : ∃ ys, l.reverse.map (fun (j : Nat) => (j : Int)) = ys := ⟨_, rfl⟩
            rw [hys] at hX hXU
            obtain ⟨m, hm⟩ : ∃ m, ys.length = m := ⟨_, rfl⟩
            have hXm : (XS t i k).length = m + 1 := by rw [hX, List.length_append, hm]; rfl
            rw [hXm] at hsk hmc hfm
            obtain ⟨g, rfl, hcells⟩ := hfm (by omega)
            have hcp := hcells m (p : Int) (by rw [hX, List.getElem?_append_right (by omega), hm, Nat.sub_self]; rfl)
            have hmi := XS_len t i k
            rw [hXm] at hmi
            rw [hsk] at g1
            have HXU := Lib.hid hXU
            have HX' := Lib.hid hX
            have HM := Lib.hid hm
            have HSK := Lib.hid hsk
            have hown := HS3.out.own k hk3
            have hgB : Hid (lb + 2 ≤ g) := (hown.lt g (by rw [hsk]; rfl)).1
            have hf1 := HS3.out.free k
            have b4 : decide ((0 : Int) < ((m + 1 : Nat) : Int)) = true := decide_eq_true (by omega)
            have b5 : decide (0 < m + 1) = true := decide_eq_true (by omega)
            have t5 : (0 : Int) ≤ (m : Int) := by omega
            have t6 : (m : Int) < ((m + 1 : Nat) : Int) := by omega
            have t7 : (m : Int) < (m : Int) + 1 := by omega
            have t8 : IntKind.i64.wrap (((m + 1 : Nat) : Int) - 1) = (m : Int) := wrapI (by omega) (by omega) (by omega)
            have t9 : (m : Int) ≤ (c' : Int) := by omega
            have hl1 : t.length = n := HL.out
            obtain ⟨o1, _, hold⟩ := HO3.out.any hi'
            have hfr := HO3.out.free i
            clear hst hX hXU hys hm hsk hcells hmc hfm hXm hxl hown
            go_upto_region 14 with fail
            have hkl5 : Kept (fun b => b = lb) w4 (w4.setCell ⟨lb, i, none⟩ (.int .i64 (p : Int))) := (Kept.refl (fun b => b = lb) w4).setCell (p := ⟨lb, i, none⟩) rfl _
            have HO5 := Lib.hid (HO3.out.set hi' (p : Int))
            have HS5 := Lib.hid (HS3.out.kept hkl5 (fun b e => by have := hob'.out; exact ⟨by omega, by omega⟩))
            have HK5 : Hid (Kept (fun _ => False) w (w4.setCell ⟨lb, i, none⟩ (.int .i64 (p : Int)))) := HK3.out.fresh hkl5 (fun q hq e => by have := HLB.out; omega)
            have HB5 : Hid (lb + 2 ≤ (w4.setCell ⟨lb, i, none⟩ (.int .i64 (p : Int))).heap.size) := Nat.le_trans HB3 hkl5.size
            clear hkl5 hold hfr hf1 g1 hcp
            generalize w4.setCell ⟨lb, i, none⟩ (.int .i64 (p : Int)) = W5 at *
            have hli : W5.cell? ⟨lb, i, none⟩ = some (.int .i64 (p : Int)) := HO5.out.cell (by rw [List.getElem?_set_self]; rw [List.length_set, Rw.mls_len, hl1]; exact hi')
            have hpn : p < n := by omega
            obtain ⟨o2, _, hold2⟩ := HO5.out.any hpn
            have hfr2 := HO5.out.free p
            have t10 : (0 : Int) ≤ (p : Int) := by omega
            have t11 : (p : Int) < (n : Int) := by omega
            go_upto_region 15 with fail
            have hkl6 : Kept (fun b => b = lb) W5 (W5.setCell ⟨lb, p, none⟩ (.int .i64 (i : Int))) := (Kept.refl (fun b => b = lb) W5).setCell (p := ⟨lb, p, none⟩) rfl _
            have HO6 := Lib.hid (HO5.out.set hpn (i : Int))
            have HS6 := Lib.hid (HS5.out.kept hkl6 (fun b e => by have := hob'.out; exact ⟨by omega, by omega⟩))
            have HK6 : Hid (Kept (fun _ => False) w (W5.setCell ⟨lb, p, none⟩ (.int .i64 (i : Int)))) := HK5.out.fresh hkl6 (fun q hq e => by have := HLB.out; omega)
            have HB6 : Hid (lb + 2 ≤ (W5.setCell ⟨lb, p, none⟩ (.int .i64 (i : Int))).heap.size) := Nat.le_trans HB5.out hkl6.size
            clear hkl6 hli hold2 hfr2
            generalize W5.setCell ⟨lb, p, none⟩ (.int .i64 (i : Int)) = W6 at *
            have g2 := HS6.out.cell k hk3
            rw [HSK.out] at g2
            have hf2 := HS6.out.free k
            go_wp2_with fail
            have hklf : Kept (fun b => b = ob) W6 (W6.setCell ⟨ob, k, none⟩ (.slice (some ⟨g, 0, none⟩) m c')) := (Kept.refl (fun b => b = ob) W6).setCell (p := ⟨ob, k, none⟩) rfl _
            have HKF := Lib.hid hklf
            clear hklf
            go_roundw
            case rel => exact ⟨i + 1, upd s k (.slice (some ⟨g, 0, none⟩) m c'), by omega, by go_num, by rw [HPP.out]; exact HO6.out.kept HKF.out (fun (e : lb = ob) => by have := hob'.out; omega), (HS6.out.pop hk3 HSK.out HX'.out HM.out).congr HXU.out, Nat.le_trans HB6.out HKF.out.size, HK6.out.fresh HKF.out (fun q hq e => by have := HLB.out; have := hob'.out; omega)⟩
            case measure => simp [intOf] <;> omega
        | none =>
          have HSN := Lib.hid hs'
          have cS : ∀ W, Calls Tryz.prog 115 #[.string ⟨#[41, 93, 125]⟩, .int .i32 x] W fun e w' => e = .returned (.int .i64 (-1)) ∧ Kept (fun _ => False) W w' := fun W => by
            have := idxs_any x hvx W
            rw [hs'] at this
            exact this
          have HCS := Lib.hid cS
          clear ho hs' hvx cS
          go_upto_region 8 with (go_at_call 115; refine (cO _).mono ?_; rintro e w3 ⟨rfl, hk3w⟩)
          clear cO
          have cS := HCS.out
          go_upto_region 11 with (go_at_call 115; refine (cS _).mono ?_; rintro e w4 ⟨rfl, hk4w⟩)
          clear cS HCS
          have hk4 := hk3w.trans hk4w
          have HS3 := Lib.hid (hS2.out.kept hk4 (fun b e => e.elim))
          have HO3 := Lib.hid (hO2.out.kept hk4 id)
          have HK3 := Lib.hid (hK2.out.trans hk4)
          have HB3 := Nat.le_trans hB2.out hk4.size
          clear hk3w hk4w hk4 hcx2 hcx hxl
          go_wp2_with fail
          go_roundw
          case rel => exact ⟨i + 1, s, by omega, by go_num, by rw [mls_n HX.out HON.out HSN.out]; exact HO3.out, HS3.out.congr (XS_none HX.out HON.out HSN.out), HB3, HK3.out⟩
          case measure => simp [intOf] <;> omega
    · obtain rfl : i = n := by omega
      have b1 : decide (i < i) = false := decide_eq_false (by omega)
      have b2 : decide ((i : Int) < (i : Int)) = false := decide_eq_false (by omega)
      have HN := Lib.hid hO.nums
      clear hO hS
      go_wp2_with fail
      go_ret
      exact ⟨lb, rfl, HN.out, by rw [HLB.out]; exact Nat.le_refl _, HK.out⟩
end Go.Proofs.YtbofjefblhnkoaaGreatDoor
namespace Go.Proofs.YtbofjefblhnkoaaGreatDoor
open Go Go.RowKit

theorem led_no (w : World) : Calls Tryz.prog 95 #[.int .i64 (-1)] w fun e w' => e = .returned (.tuple #[.int .i64 0, .int .i64 6]) ∧ w' = w := by
  go_enter Tryz.func95, Tryz.ntmps95
  go_wp2
  exact bodyPost_ret (v := .tuple #[.int .i64 0, .int .i64 6]) (by simp [results, Tryz.results95, go_sem]) rfl ⟨rfl, rfl⟩
theorem led_yes (m : Nat) (w : World) : Calls Tryz.prog 95 #[.int .i64 (m : Int)] w fun e w' => e = .returned (.tuple #[.int .i64 (m : Int), .int .i64 0]) ∧ w' = w := by
  have b : ((m : Int) == -1) = false := by rw [beq_eq_false_iff_ne]; omega
  go_enter Tryz.func95, Tryz.ntmps95
  go_wp2
  exact bodyPost_ret (v := .tuple #[.int .i64 (m : Int), .int .i64 0]) (by simp [results, Tryz.results95, go_sem]) rfl ⟨rfl, rfl⟩
/-- A mate, told: where it is, or the error. -/
def ansO (o : Option Nat) : Value := match o with
  | some m => .tuple #[.int .i64 (m : Int), .int .i64 0]
  | none => .tuple #[.int .i64 0, .int .i64 6]
theorem ansO_form (o : Option Nat) : ∃ a b : Int, ansO o = .tuple #[.int .i64 a, .int .i64 b] := by
  cases o with
  | none => exact ⟨_, _, rfl⟩
  | some m => exact ⟨_, _, rfl⟩
theorem mt_oI (t : List Int) (i : Nat) : Rw.mt t i = oI (Rw.mate t i) := by unfold Rw.mt oI; cases Rw.mate t i <;> rfl
theorem led_any (o : Option Nat) (w : World) : Calls Tryz.prog 95 #[.int .i64 (oI o)] w fun e w' => e = .returned (ansO o) ∧ w' = w := by
  cases o with
  | none => exact led_no w
  | some m => exact led_yes m w
set_option maxRecDepth 100000 in
theorem pmove_yes (s : ByteArray) (k : Nat) (w : World) (hT : Tabs w) (hm : mayB s = true) (hk : k ≤ (rs s).length) :
    Calls Tryz.prog 55 #[.string s, .int .i64 k] w fun e w' => Kept (fun _ => False) w w' ∧ e = .returned (ansO (Rw.pair (rs s) k)) := by
  have cU := runes_yes s k w hT hm hk
  have hl := rs_len s
  have hsz := mayB_size hm
  have hv := vald_rs hm
  generalize rs s = t at *
  clear hT hm
  have hle := Rw.en_le t k hk
  have hge := Rw.en_ge t k
  obtain ⟨R, hR⟩ : ∃ R, Rw.prm t (Rw.en t k) (t.length + 1) k = R := ⟨_, rfl⟩
  rw [show Rw.pair t k = R from hR]
  obtain ⟨xa, xb, hX⟩ := ansO_form R
  have HX := Lib.hid hX
  have HV := Lib.hid hv
  rw [hX]
  clear hv hX
  go_enter Tryz.func55, Tryz.ntmps55
  go_upto_region 4 with (go_at_call 34; refine cU.mono ?_; rintro e w1 ⟨hk1, bb, cap, rfl, hbg, hRn⟩)
  have cB := row_any (some ⟨bb, 0, none⟩) t.length cap t k w1 hRn hk (by omega)
  have HK1 := Lib.hid hk1
  have HRN := Lib.hid hRn
  clear cU hk1 hRn hbg
  generalize Rw.en t k = h at *
  generalize Rw.beg t k = lo at *
  have HR := Lib.hid hR
  clear hR
  go_wp2_with (go_at_call 35; refine cB.mono ?_; rintro e w2 ⟨rfl, hw⟩; have hw2 := hw.symm; clear hw; subst hw2; clear cB)
  go_loopw [10] (fun v wr => ∃ (f j : Nat), v = .int .i64 j ∧ j ≤ h ∧ h < j + f ∧ Rw.prm t h f j = R ∧ Kept (fun _ => False) w1 wr) (fun v _ => h - (intOf v).toNat)
  case atStart => exact ⟨t.length + 1, k, rfl, hge, by omega, HR.out, Kept.refl _ _⟩
  case round =>
    obtain ⟨f, j, rfl, hjh, hf, hprm, hkept⟩ := hrel
    have HK := Lib.hid hkept
    have HP := Lib.hid hprm
    clear hkept hprm
    by_cases hlt : j < h
    · obtain ⟨f', rfl⟩ : ∃ f', f = f' + 1 := ⟨f - 1, by omega⟩
      obtain ⟨ad, x, he, hx, hcx⟩ := (HRN.out.kept HK.out (fun _ _ => id)).cell (j := j) (by omega)
      injection he with he
      subst he
      rw [addr_add, Nat.zero_add] at hcx
      have hvx := HV.out x (List.mem_of_getElem? hx)
      have cC := fun W => isBr_any x hvx W
      have b1 : decide (j < h) = true := decide_eq_true hlt
      have b2 : decide ((j : Int) < (h : Int)) = true := decide_eq_true (by omega)
      have t1 : (0 : Int) ≤ (j : Int) := by omega
      have t2 : (j : Int) < (t.length : Int) := by omega
      have HX2 := Lib.hid hx
      cases hb : Rw.isBr x with
      | true =>
        have hmr : Rw.mate t j = R := by rw [← HP.out, Rw.prm_hit hlt hx hb]
        have hg := Rw.mls_all (t := t) (i := j) (by omega)
        rw [mt_oI, hmr] at hg
        have HG := Lib.hid hg
        rw [hb] at cC
        have HXX := Lib.hid HX.out
        have cL := fun W => led_any R W
        simp only [HX.out] at cL
        clear hx hvx hb hmr hg
        go_upto_region 9 with (go_at_call 94; refine (cC _).mono ?_; rintro e w3 ⟨rfl, hk3⟩)
        have cM := mates_any (some ⟨bb, 0, none⟩) t.length cap t w3 (HRN.out.kept (HK.out.trans hk3) (fun _ _ => id)) HV.out (by omega)
        have HK3 := Lib.hid (HK.out.trans hk3)
        clear hk3 hcx cC
        go_wp2_with (first | (go_at_call 96; refine cM.mono ?_; rintro e w4 ⟨b, rfl, hN, _, hk4⟩; obtain ⟨ad1, e1, hc1⟩ := hN.2 j _ HG.out; injection e1 with e1; subst e1; rw [addr_add, Nat.zero_add] at hc1; have HK4 := Lib.hid hk4; clear hN hk4 cM) | (go_at_call 95; refine (cL _).mono ?_; rintro e w5 ⟨rfl, rfl⟩))
        exact bodyPost_ret (v := .tuple #[.int .i64 xa, .int .i64 xb]) (by simp [results, Tryz.results55, go_sem]) rfl ⟨HK1.out.trans (HK3.out.trans HK4.out), rfl⟩
      | false =>
        have hp2 := Lib.hid (show Rw.prm t h f' (j + 1) = R by rw [← HP.out, Rw.prm_skip hlt hx hb])
        rw [hb] at cC
        clear hx hvx hb
        go_wp2_with (go_at_call 94; refine (cC _).mono ?_; rintro e w3 ⟨rfl, hk3⟩; have HK3 := Lib.hid (HK.out.trans hk3); clear hk3)
        go_roundw
        case rel => exact ⟨f', j + 1, by go_num, by omega, by omega, hp2.out, HK3.out⟩
        case measure => simp [intOf] <;> omega
    · obtain rfl : j = h := by omega
      have b1 : decide (j < j) = false := decide_eq_false (by omega)
      have b2 : decide ((j : Int) < (j : Int)) = false := decide_eq_false (by omega)
      have hRn : Hid (R = none) := by show _ = _; rw [← HP.out, Rw.prm_out (by omega)]
      go_wp2_with fail
      exact bodyPost_ret (v := .tuple #[.int .i64 0, .int .i64 6]) (by simp [results, Tryz.results55, go_sem]) rfl ⟨HK1.out.trans HK.out, by rw [← HX.out, hRn.out]; rfl⟩
/-- A pair, told. -/
def ansA (o : Option (Nat × Int)) : Value := match o with
  | some (x, y) => .tuple #[.int .i64 (x : Int), .int .i64 y, .int .i64 0]
  | none => .tuple #[.int .i64 0, .int .i64 0, .int .i64 6]
theorem arn_0 (t : List Int) (a kind : Int) (c : Nat) : Rw.arn t a kind 0 c = none := rfl
theorem arn_hit {t : List Int} {a kind : Int} {j : Nat} (h1 : t[j]? = some kind) (h2 : a ≤ Rw.mt t j) : Rw.arn t a kind (j + 1) 1 = some (j, Rw.mt t j) := by
  unfold Rw.arn; rw [if_pos ⟨h1, h2⟩, if_pos (by omega)]
theorem arn_next {t : List Int} {a kind : Int} {j c : Nat} (h1 : t[j]? = some kind) (h2 : a ≤ Rw.mt t j) : Rw.arn t a kind (j + 1) (c + 2) = Rw.arn t a kind j (c + 1) := by
  conv => lhs; unfold Rw.arn
  rw [if_pos ⟨h1, h2⟩, if_neg (by omega)]
  rfl
theorem arn_skip {t : List Int} {a kind : Int} {j c : Nat} (h : ¬ (t[j]? = some kind ∧ a ≤ Rw.mt t j)) : Rw.arn t a kind (j + 1) c = Rw.arn t a kind j c := by
  conv => lhs; unfold Rw.arn
  rw [if_neg h]
end Go.Proofs.YtbofjefblhnkoaaGreatDoor
namespace Go.Proofs.YtbofjefblhnkoaaGreatDoor.Pk
open Go Go.RowKit

set_option maxRecDepth 100000 in
set_option maxHeartbeats 1000000 in
theorem rpair_any (A : Option Addr) (n c k : Nat) (t : List Int) (w : World) (hA : Rn w A n t) (hn : n ≤ 6000) (hk : k ≤ n) :
    Calls Tryz.prog 73 #[.slice A n c, .int .i64 k] w fun e w' => e = .returned (.int .i64 (oI (Rw.pair t k))) ∧ Kept (fun _ => False) w w' := by
  have hlen := hA.1
  have hle := Rw.en_le t k (by omega)
  have hge := Rw.en_ge t k
  have hnn : Hid (∀ j, k ≤ j → j < Rw.en t k → t[j]? ≠ some 10) := fun j h1 h2 => Rw.en_none t k j h1 h2
  have hat : Hid (Rw.en t k < t.length → t[Rw.en t k]? = some 10) := fun h => Rw.en_at t k h
  obtain ⟨R, hR⟩ : ∃ R, Rw.prm t (Rw.en t k) (t.length + 1) k = R := ⟨_, rfl⟩
  rw [show Rw.pair t k = R from hR]
  obtain ⟨X, hX⟩ : ∃ X, oI R = X := ⟨_, rfl⟩
  rw [hX]
  have HX := Lib.hid hX
  have HA := Lib.hid hA
  have HL := Lib.hid hlen
  generalize Rw.en t k = h at *
  have HR := Lib.hid hR
  rw [hlen] at hle
  clear hA hR hX hlen
  go_enter Tryz.func73, Tryz.ntmps73
  go_wp2_with fail
  go_loopw [5] (fun v wr => ∃ (f j : Nat), v = .int .i64 j ∧ k ≤ j ∧ j ≤ h ∧ h < j + f ∧ Rw.prm t h f j = R ∧ Kept (fun _ => False) w wr) (fun v _ => h - (intOf v).toNat)
  case atStart => exact ⟨t.length + 1, k, rfl, Nat.le_refl _, hge, by have := HL.out; omega, HR.out, Kept.refl _ _⟩
  case round =>
    obtain ⟨f, j, rfl, hkj, hjh, hf, hprm, hkept⟩ := hrel
    have HK := Lib.hid hkept
    have HP := Lib.hid hprm
    clear hkept hprm
    by_cases hlt : j < h
    · obtain ⟨f', rfl⟩ : ∃ f', f = f' + 1 := ⟨f - 1, by omega⟩
      obtain ⟨ad, x, rfl, hx, hcx⟩ := (HA.out.kept HK.out (fun _ _ => id)).cell (j := j) (by omega)
      have h10 : x ≠ 10 := fun e => hnn.out j hkj hlt (by rw [hx, e])
      have b3 : (x != 10) = true := by rw [bne_iff_ne]; exact h10
      have cB := bracket_any x wr
      have b1 : decide (j < n) = true := decide_eq_true (by omega)
      have b2 : decide ((j : Int) < (n : Int)) = true := decide_eq_true (by omega)
      have t1 : (0 : Int) ≤ (j : Int) := by omega
      have t2 : (j : Int) < (n : Int) := by omega
      have HXX := Lib.hid hx
      cases hb : Rw.isBr x with
      | true =>
        have hmr : Hid (Rw.mt t j = X) := by show _ = _; rw [mt_oI, ← HX.out, ← HP.out, Rw.prm_hit hlt hx hb]
        have hbr : ∃ q B, 0 ≤ q ∧ brV x = .tuple #[.int .i64 q, .bool B] := by
          unfold brV
          unfold Rw.isBr at hb
          cases ho : Rw.kdo x with
          | some q => exact ⟨q, true, by omega, rfl⟩
          | none =>
            cases hs : Rw.kds x with
            | some q => exact ⟨q, false, by omega, rfl⟩
            | none => rw [ho, hs] at hb; cases hb
        obtain ⟨q, B, hq, hbv⟩ := hbr
        rw [hbv] at cB
        have b4 : decide (0 ≤ q) = true := decide_eq_true hq
        clear hx h10 hb hbv
        go_upto_region 6 with (go_at_call 110; refine cB.mono ?_; rintro e w1 ⟨rfl, hk1⟩)
        have cM := rmate_any (some ad) n c j t w1 (HA.out.kept (HK.out.trans hk1) (fun _ _ => id)) (by omega)
        rw [hmr.out] at cM
        have HK1 := Lib.hid (HK.out.trans hk1)
        clear hk1 hcx cB
        go_wp2_with (go_at_call 105; refine cM.mono ?_; rintro e w2 ⟨rfl, hk2⟩)
        go_ret
        exact ⟨rfl, HK1.out.trans hk2⟩
      | false =>
        have hp2 := Lib.hid (show Rw.prm t h f' (j + 1) = R by rw [← HP.out, Rw.prm_skip hlt hx hb])
        have hbv : brV x = .tuple #[.int .i64 (-1), .bool false] := by
          unfold brV
          unfold Rw.isBr at hb
          rw [Bool.or_eq_false_iff] at hb
          rw [show Rw.kdo x = none by simpa using hb.1, show Rw.kds x = none by simpa using hb.2]
        rw [hbv] at cB
        clear hx h10 hb hbv
        go_wp2_with (go_at_call 110; refine cB.mono ?_; rintro e w1 ⟨rfl, hk1⟩; have HK1 := Lib.hid (HK.out.trans hk1); clear hk1 cB)
        go_roundw
        case rel => exact ⟨f', j + 1, by go_num, by omega, by omega, by omega, hp2.out, HK1.out⟩
        case measure => simp [intOf] <;> omega
    · obtain rfl : j = h := by omega
      have hRn : Hid (X = -1) := by show _ = _; rw [← HX.out, ← HP.out, Rw.prm_out (by omega)]; rfl
      by_cases hjn : j < n
      · obtain ⟨ad, x, rfl, hx, hcx⟩ := (HA.out.kept HK.out (fun _ _ => id)).cell hjn
        have h10 : x = 10 := by have := hat.out (by rw [HL.out]; exact hjn); rw [hx] at this; injection this
        subst h10
        have b1 : decide (j < n) = true := decide_eq_true (by omega)
        have b2 : decide ((j : Int) < (n : Int)) = true := decide_eq_true (by omega)
        have t1 : (0 : Int) ≤ (j : Int) := by omega
        have t2 : (j : Int) < (n : Int) := by omega
        clear hx
        go_wp2_with fail
        go_ret
        exact ⟨by rw [hRn.out]; rfl, HK.out⟩
      · obtain rfl : j = n := by omega
        have b1 : decide (j < j) = false := decide_eq_false (by omega)
        have b2 : decide ((j : Int) < (j : Int)) = false := decide_eq_false (by omega)
        go_wp2_with fail
        go_ret
        exact ⟨by rw [hRn.out]; rfl, HK.out⟩
/-- The pair around a place, as the reference tells it. -/
def ansB (o : Option (Nat × Int)) : Value := match o with
  | some (x, y) => .tuple #[.int .i64 (x : Int), .int .i64 y]
  | none => .tuple #[.int .i64 (-1), .int .i64 (-1)]
end Go.Proofs.YtbofjefblhnkoaaGreatDoor.Pk
namespace Go.Proofs.YtbofjefblhnkoaaGreatDoor.Pk
open Go Go.RowKit

/-- A text and one of its offsets? -/
def GoodP (s : ByteArray) (x : Int) : Prop := mayB s = true ∧ 0 ≤ x ∧ x ≤ ((rs s).length : Int)
instance (s : ByteArray) (x : Int) : Decidable (GoodP s x) := by unfold GoodP; infer_instance
theorem pmove_no (s : ByteArray) (x : Int) (w : World) (hs : s.size ≤ 140737488351232) (hT : Tabs w) (h : ¬ GoodP s x) :
    Calls Tryz.prog 55 #[.string s, .int .i64 x] w fun e w' => Kept (fun _ => False) w w' ∧ e = .returned (.tuple #[.int .i64 0, .int .i64 1]) := by
  have cU := runes_no s x w hs hT h
  clear hT h
  go_enter Tryz.func55, Tryz.ntmps55
  go_wp2_with (go_at_call 34; refine cU.mono ?_; rintro e w1 ⟨hk1, rfl⟩)
  exact bodyPost_ret (v := .tuple #[.int .i64 0, .int .i64 1]) (by simp [results, Tryz.results55, go_sem]) rfl ⟨hk1, rfl⟩
/-- A mate, told of whatever arguments. -/
def ToldM (s : ByteArray) (x : Int) (o : Option Nat) (X E : Int) : Prop := (GoodP s x → ansO o = .tuple #[.int .i64 X, .int .i64 E]) ∧ (¬ GoodP s x → X = 0 ∧ E = 1)
theorem pmove_all (s : ByteArray) (x : Int) (w : World) (hs : s.size ≤ 140737488351232) (hT : Tabs w) :
    Calls Tryz.prog 55 #[.string s, .int .i64 x] w fun e w' => (∃ X E : Int, e = .returned (.tuple #[.int .i64 X, .int .i64 E]) ∧ ToldM s x (Rw.pair (rs s) x.toNat) X E) ∧ Kept (fun _ => False) w w' := by
  by_cases hg : GoodP s x
  · obtain ⟨g1, g2, g3⟩ := id hg
    obtain ⟨k, rfl⟩ := Int.eq_ofNat_of_zero_le g2
    refine (pmove_yes s k w hT g1 (by omega)).mono ?_
    rintro e w' ⟨hk, rfl⟩
    obtain ⟨X, E, he⟩ := ansO_form (Rw.pair (rs s) k)
    exact ⟨⟨X, E, by rw [he], fun _ => he, fun h => absurd hg h⟩, hk⟩
  · refine (pmove_no s x w hs hT hg).mono ?_
    rintro e w' ⟨hk, rfl⟩
    exact ⟨⟨0, 1, rfl, fun h => absurd h hg, fun _ => ⟨rfl, rfl⟩⟩, hk⟩
theorem ansA_form (o : Option (Nat × Int)) : ∃ a b c : Int, ansA o = .tuple #[.int .i64 a, .int .i64 b, .int .i64 c] := by
  cases o with
  | none => exact ⟨_, _, _, rfl⟩
  | some p => exact ⟨_, _, _, rfl⟩
def GoodA (s : ByteArray) (x kind cnt : Int) : Prop := GoodP s x ∧ (kind = 40 ∨ kind = 91 ∨ kind = 123) ∧ 1 ≤ cnt ∧ cnt ≤ 999
instance (s : ByteArray) (x kind cnt : Int) : Decidable (GoodA s x kind cnt) := by unfold GoodA; infer_instance
def ToldA (s : ByteArray) (x kind cnt X Y E : Int) : Prop := (GoodA s x kind cnt → ansA (Rw.around (rs s) x.toNat kind cnt.toNat) = .tuple #[.int .i64 X, .int .i64 Y, .int .i64 E]) ∧ (¬ GoodA s x kind cnt → X = 0 ∧ Y = 0 ∧ E = 1)
/-- What a law's loops hold of every world. -/
structure Held (w : World) (pb : Nat) (p : AskV) : Prop where
  pb : PB w pb p
  ask : AskOk w p
  tabs : Tabs w
theorem Held.kept {w w' : World} {pb : Nat} {p : AskV} (h : Held w pb p) (hk : Kept (fun _ => False) w w') : Held w' pb p :=
  ⟨h.pb.kept hk id, h.ask.kept hk, h.tabs.kept hk id id⟩
end Go.Proofs.YtbofjefblhnkoaaGreatDoor.Pk
namespace Go.Proofs.YtbofjefblhnkoaaGreatDoor
open Go Go.RowKit

/-- An offset, told, or the error. -/
def ptV (o : Option Int) : Value := match o with
  | none => .tuple #[.int .i64 0, .int .i64 6]
  | some a => .tuple #[.int .i64 a, .int .i64 0]
theorem ansO_wh (o : Option Nat) : ansO o = ptV (o.map fun (a : Nat) => (a : Int)) := by cases o <;> rfl
set_option maxRecDepth 100000 in
set_option maxHeartbeats 1000000 in
theorem pgo_pair (s : ByteArray) (k m : Nat) (c0 c2 c3 c4 c5 k1 k2 : Int) (A : Option Addr) (n c : Nat) (M : List (List Int)) (w : World) (hT : Tabs w) (hm : mayB s = true) (hk : k ≤ (rs s).length) (hc : m ≤ 999) (hx : k1 = 0 ∨ Rw.Seek k1) (hA : Rws w A n 2 M) (hn : n ≤ 100000) (ho : Rw.mOk M) (hkey : Rw.kin c3 = 6) :
    Calls Tryz.prog 24 #[.string s, .int .i64 k, cmdV c0 m c2 c3 c4 c5, sekV k1 k2, .slice A n c] w fun e w' => e = .returned (goV (Rw.goM (rs s) k c3 c5 m k1 k2 M)) ∧ Kept (fun _ => False) w w' := by
  have HK0 : Hid (Kept (fun _ => False) w ((((w.alloc (cmdO c0 m c2 c3 c4 c5)).alloc (sekO k1 k2)).alloc (tgtO 0 0)).alloc (sekO 0 0))) := ((((Kept.refl _ w).alloc _).alloc _).alloc _).alloc _
  have HF0 := Lib.hid (four_new w c0 m c2 c3 c4 c5 k1 k2)
  have cK := fun W => kindOf_any c3 W
  rw [hkey] at cK
  have cP := fun W (hk' : Kept (fun _ => False) w W) => place_yes s k W (hT.kept hk' id id) hm hk
  have cS := fun W => mayseek_any k1 k2 W
  rw [decide_eq_true hx] at cS
  have cC := fun W (hk' : Kept (fun _ => False) w W) => pcheck_any A n c M W (hA.kept hk' (fun _ _ => id)) hn
  have HO := Lib.hid ho
  have b1 : decide ((m : Int) < 0) = false := by simp
  have b2 : decide (999 < (m : Int)) = false := by simp; omega
  have b3 : decide (999 < m) = false := by simp; omega
  have hq : max (m : Int) 1 = ((Rw.times m : Nat) : Int) := by unfold Rw.times; omega
  have hq1 : 1 ≤ Rw.times m ∧ Rw.times m ≤ 999 := by unfold Rw.times; omega
  have hgo : Rw.goM (rs s) k c3 c5 m k1 k2 M = ((Rw.pair (rs s) k).map fun (a : Nat) => (a : Int)).map fun a => (a, 1, k1, k2) := by
    unfold Rw.goM
    rw [if_neg (by rw [hkey]; decide), if_neg (by rw [hkey]; decide), if_neg (by rw [hkey]; decide), if_neg (by rw [hkey]; decide), if_pos hkey]
    cases Rw.pair (rs s) k <;> rfl
  have cW := fun W (hk' : Kept (fun _ => False) w W) => pmove_yes s k W (hT.kept hk' id id) hm hk
  simp only [ansO_wh] at cW
  rw [hgo]
  obtain ⟨o, hoo⟩ : ∃ o, ((Rw.pair (rs s) k).map fun (a : Nat) => (a : Int)) = o := ⟨_, rfl⟩
  rw [hoo]
  simp only [hoo] at cW
  clear hT hgo hoo hA ho
  generalize Rw.times m = q at *
  generalize Rw.nl (rs s) k = p0 at *
  generalize k - Rw.beg (rs s) k = p1 at *
  clear hkey hx
  cases o with
  | none =>
    unfold ptV at cW
    simp only at cW
    · go_enter Tryz.func24, Tryz.ntmps24
      go_wp2_with (first
        | (go_at_call 49; refine (cK _).mono ?_; rintro e w' ⟨rfl, hw⟩; have hw2 := hw.symm; subst hw2)
        | (go_at_call 39; refine (cP _ HK0.out).mono ?_; rintro e w1 ⟨rfl, hk1⟩; have HK1 := Lib.hid (HK0.out.trans hk1); have HF1 := Lib.hid (HF0.out.kept hk1); have HX1 : Hid (Kept (fun _ => False) w1 (w1.alloc (.cells #[.int .i64 p0, .int .i64 p1] 24))) := (Kept.refl (fun _ => False) w1).alloc _; obtain ⟨a1, a2, a3, ⟨d1, d2, d3, d4⟩, ⟨e1, e2, e3, e4⟩, ⟨g1, g2, g3, g4⟩⟩ := (HF1.out.kept HX1.out).facts; clear hk1)
        | (go_at_call 50; refine (cS _).mono ?_; rintro e w2 ⟨rfl, hk2⟩; have HK2 := Lib.hid ((HK1.out.alloc _).trans hk2); have HF2 := Lib.hid (HF1.out.kept (((Kept.refl (fun _ => False) w1).alloc _).trans hk2)); clear hk2)
        | (go_at_call 42; refine (cC _ HK2.out).mono ?_; rintro e w3 ⟨⟨E3, rfl, _, hE⟩, hk3⟩; obtain rfl : E3 = 0 := hE.2 HO.out; have HK3 := Lib.hid (HK2.out.trans hk3); have HF3 := Lib.hid (HF2.out.kept hk3); obtain ⟨A1, A2, A3, ⟨D1, D2, D3, D4⟩, ⟨E1, E2, E3, E4⟩, ⟨G1, G2, G3, G4⟩⟩ := HF3.out.facts; clear hk3 hE)
        | (go_at_call 55; have HK4 := Lib.hid (HK3.out.fresh ((Kept.pair (g := w.heap.size + 1 + 1 + 1) (Kept.refl (fun q => q = w.heap.size + 1 + 1 ∨ q = w.heap.size + 1 + 1 + 1) w3) (.inr rfl) (.int .i64 k1) (.int .i64 k2)).setCell (p := ⟨w.heap.size + 1 + 1, 1, none⟩) (.inl rfl) (.int .i64 1)) (fun q hq e => by omega)); have HF4 := Lib.hid ((HF3.out.setX k1 k2).setT1 1); refine (cW _ HK4.out).mono ?_; rintro e w5 ⟨hk5, rfl⟩; have HK5 := Lib.hid (HK4.out.trans hk5); have HF5 := Lib.hid (HF4.out.kept hk5); obtain ⟨x1, x2, x3, ⟨y1, y2, y3, y4⟩, ⟨z1, z2, z3, z4⟩, ⟨v1, v2, v3, v4⟩⟩ := HF5.out.facts; clear hk5))
      have FF := (((HF5.out.setT0 0).setT 0 0).setX 0 0)
      have KK := (Kept.pair (g := w.heap.size + 1 + 1 + 1) (Kept.pair (g := w.heap.size + 1 + 1) ((Kept.refl (fun q => q = w.heap.size + 1 + 1 ∨ q = w.heap.size + 1 + 1 + 1) w5).setCell (p := ⟨w.heap.size + 1 + 1, 0, none⟩) (.inl rfl) (.int .i64 0)) (.inl rfl) (.int .i64 0) (.int .i64 0)) (.inr rfl) (.int .i64 0) (.int .i64 0))
      refine bodyPost_ret (res_go rfl _ _ (w.heap.size + 1 + 1) (w.heap.size + 1 + 1 + 1) 0 0 0 0 rfl rfl ?_ ?_) rfl ⟨rfl, ?_⟩
      · exact FF.c
      · exact FF.d
      · exact HK5.out.fresh KK (fun q hq e => by omega)
  | some p =>
    unfold ptV at cW
    simp only at cW
    · go_enter Tryz.func24, Tryz.ntmps24
      go_wp2_with (first
        | (go_at_call 49; refine (cK _).mono ?_; rintro e w' ⟨rfl, hw⟩; have hw2 := hw.symm; subst hw2)
        | (go_at_call 39; refine (cP _ HK0.out).mono ?_; rintro e w1 ⟨rfl, hk1⟩; have HK1 := Lib.hid (HK0.out.trans hk1); have HF1 := Lib.hid (HF0.out.kept hk1); have HX1 : Hid (Kept (fun _ => False) w1 (w1.alloc (.cells #[.int .i64 p0, .int .i64 p1] 24))) := (Kept.refl (fun _ => False) w1).alloc _; obtain ⟨a1, a2, a3, ⟨d1, d2, d3, d4⟩, ⟨e1, e2, e3, e4⟩, ⟨g1, g2, g3, g4⟩⟩ := (HF1.out.kept HX1.out).facts; clear hk1)
        | (go_at_call 50; refine (cS _).mono ?_; rintro e w2 ⟨rfl, hk2⟩; have HK2 := Lib.hid ((HK1.out.alloc _).trans hk2); have HF2 := Lib.hid (HF1.out.kept (((Kept.refl (fun _ => False) w1).alloc _).trans hk2)); clear hk2)
        | (go_at_call 42; refine (cC _ HK2.out).mono ?_; rintro e w3 ⟨⟨E3, rfl, _, hE⟩, hk3⟩; obtain rfl : E3 = 0 := hE.2 HO.out; have HK3 := Lib.hid (HK2.out.trans hk3); have HF3 := Lib.hid (HF2.out.kept hk3); obtain ⟨A1, A2, A3, ⟨D1, D2, D3, D4⟩, ⟨E1, E2, E3, E4⟩, ⟨G1, G2, G3, G4⟩⟩ := HF3.out.facts; clear hk3 hE)
        | (go_at_call 55; have HK4 := Lib.hid (HK3.out.fresh ((Kept.pair (g := w.heap.size + 1 + 1 + 1) (Kept.refl (fun q => q = w.heap.size + 1 + 1 ∨ q = w.heap.size + 1 + 1 + 1) w3) (.inr rfl) (.int .i64 k1) (.int .i64 k2)).setCell (p := ⟨w.heap.size + 1 + 1, 1, none⟩) (.inl rfl) (.int .i64 1)) (fun q hq e => by omega)); have HF4 := Lib.hid ((HF3.out.setX k1 k2).setT1 1); refine (cW _ HK4.out).mono ?_; rintro e w5 ⟨hk5, rfl⟩; have HK5 := Lib.hid (HK4.out.trans hk5); have HF5 := Lib.hid (HF4.out.kept hk5); obtain ⟨x1, x2, x3, ⟨y1, y2, y3, y4⟩, ⟨z1, z2, z3, z4⟩, ⟨v1, v2, v3, v4⟩⟩ := HF5.out.facts; clear hk5))
      go_region
      all_goals
        try go_wp2
        have FF := ((((HF5.out.setT0 p).setT p 1).setX k1 k2).kept ((Kept.refl (fun _ => False) _).drew))
        have KK := (Kept.pair (g := w.heap.size + 1 + 1 + 1) (Kept.pair (g := w.heap.size + 1 + 1) ((Kept.refl (fun q => q = w.heap.size + 1 + 1 ∨ q = w.heap.size + 1 + 1 + 1) w5).setCell (p := ⟨w.heap.size + 1 + 1, 0, none⟩) (.inl rfl) (.int .i64 p)) (.inl rfl) (.int .i64 p) (.int .i64 1)) (.inr rfl) (.int .i64 k1) (.int .i64 k2)).drew
        refine bodyPost_ret (res_go rfl _ _ (w.heap.size + 1 + 1) (w.heap.size + 1 + 1 + 1) p 1 k1 k2 rfl rfl ?_ ?_) rfl ⟨rfl, ?_⟩
        · exact FF.c
        · exact FF.d
        · exact HK5.out.fresh KK (fun q hq e => by omega)
end Go.Proofs.YtbofjefblhnkoaaGreatDoor
