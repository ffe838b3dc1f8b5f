/-
  THE MATES OF ALL RUNES, of the program: the loop.
-/
import Derived.Test.YtohmhjeimeilcaaDoorPkN
set_option linter.unusedVariables false
namespace Go.Proofs.YtohmhjeimeilcaaDoor
open Go Go.RowKit

theorem mls_o {t : List Int} {i k : Nat} (hk : k < 3) (h : t[i]? = some (Rw.opn k)) : Rw.mls t (i + 1) = (Rw.mls t i).set i (-1) :=
  Rw.mls_step (List.getElem?_eq_some_iff.1 h).1 (fun m hm => by rw [Rw.mate_open hk h] at hm; have := (Rw.fsc_ge _ _ _ _ hm).1; omega)
theorem mls_n {t : List Int} {i : Nat} {c : Int} (h : t[i]? = some c) (h1 : Rw.kdo c = none) (h2 : Rw.kds c = none) : Rw.mls t (i + 1) = (Rw.mls t i).set i (-1) :=
  Rw.mls_step (List.getElem?_eq_some_iff.1 h).1 (fun m hm => by rw [Rw.mate_none h h1 h2] at hm; cases hm)
theorem mls_e {t : List Int} {i k : Nat} (hk : k < 3) (h : t[i]? = some (Rw.sht k)) (hs : Rw.stk t k i = []) : Rw.mls t (i + 1) = (Rw.mls t i).set i (-1) :=
  Rw.mls_step (List.getElem?_eq_some_iff.1 h).1 (fun m hm => by rw [Rw.mate_shut hk h, hs] at hm; cases hm)
theorem mls_p {t : List Int} {i k p : Nat} {l : List Nat} (hk : k < 3) (h : t[i]? = some (Rw.sht k)) (hs : Rw.stk t k i = p :: l) : Rw.mls t (i + 1) = (((Rw.mls t i).set i (-1)).set i (p : Int)).set p (i : Int) :=
  Rw.mls_pair (List.getElem?_eq_some_iff.1 h).1 (by rw [Rw.mate_shut hk h, hs]; rfl) (Rw.stk_mem i p (by rw [hs]; simp)).1
theorem ownsRow_form {w : World} {B : Nat} {e : TypeId} {sz n : Nat} {v : Value} {xs : List Value} (h : w.ownsRow B e sz v n xs) : ∃ A c, v = .slice A n c := by
  rcases h.2 with ⟨rfl, rfl⟩ | ⟨g, cap, cur, rfl, _⟩
  · exact ⟨_, _, rfl⟩
  · exact ⟨_, _, rfl⟩
theorem grown_kept {S : Nat → Prop} {w w' : World} {row : Option Nat} (hg : w.grownBy w' row) (hS : ∀ b, row = some b → S b) : Kept S w w' := ⟨hg.os, hg.tape, hg.output, hg.size, fun q hq hne => hg.block q hq (fun e => hne (hS q e.symm))⟩
set_option maxRecDepth 100000 in
set_option maxHeartbeats 2000000 in
theorem mates_any (A : Option Addr) (n c : Nat) (t : List Int) (w : World) (hA : Rn w A n t) (hv : Vald t) (hn : n ≤ 6000) :
    Calls Tryd.prog 34 #[.slice A n c] w fun e w' => ∃ b, e = .returned (.slice (some ⟨b, 0, none⟩) n n) ∧ Nums w' (some ⟨b, 0, none⟩) n (Rw.mls t n) ∧ w.heap.size ≤ b ∧ Kept (fun _ => False) w w' := by
  obtain ⟨i0, hi, hz0, hz1, hz2⟩ := info_parts info_int
  obtain ⟨W0, hmk, hk0, hz, hO0⟩ := make_ints n w (by omega)
  have hlen := hA.1
  have HL := Lib.hid hlen
  have HA := Lib.hid hA
  have HV := Lib.hid hv
  have HO0 := Lib.hid hO0
  have HK0 := Lib.hid hk0
  have HZ := Lib.hid hz
  obtain ⟨lb, hlb⟩ : ∃ lb, w.heap.size = lb := ⟨_, rfl⟩
  have HLB := Lib.hid hlb
  rw [hlb] at hmk HO0
  clear hA hv hO0 hk0 hlen hz hlb
  go_enter Tryd.func34, Tryd.ntmps34
  go_upto_region 3 with fail
  have hS0 : Hid (Stk3 (W0.alloc (.cells #[.slice none 0 0, .slice none 0 0, .slice none 0 0] 75)) (lb + 2) W0.heap.size (XS t 0) (fun _ => .slice none 0 0)) :=
    ⟨⟨_, _, heap_alloc_new W0 _⟩, fun k hk => (cell_of_row _ _ _ _ _ _ (heap_alloc_new W0 _)).trans (match k, hk with | 0, _ => rfl | 1, _ => rfl | 2, _ => rfl), fun k hk => World.ownsRow_nil _ _ _ _, fun a b _ _ _ => .inl rfl, by have := HZ.out; have := HLB.out; omega⟩
  have hO1 : Hid (OwnN (W0.alloc (.cells #[.slice none 0 0, .slice none 0 0, .slice none 0 0] 75)) lb n (List.replicate n 0)) := HO0.out.kept ((Kept.refl (fun _ => False) W0).alloc _) id
  have hk1 : Hid (Kept (fun _ => False) w (W0.alloc (.cells #[.slice none 0 0, .slice none 0 0, .slice none 0 0] 75))) := HK0.out.alloc _
  have hB1 : Hid (lb + 2 ≤ (W0.alloc (.cells #[.slice none 0 0, .slice none 0 0, .slice none 0 0] 75)).heap.size) := by have := HZ.out; have := HLB.out; show _ ≤ _; simp; omega
  have hob' : Hid (W0.heap.size = lb + 1) := by have := HZ.out; have := HLB.out; show _ = _; omega
  clear HZ HK0 HO0 hmk
  generalize W0.alloc (.cells #[.slice none 0 0, .slice none 0 0, .slice none 0 0] 75) = W1 at *
  generalize W0.heap.size = ob at *
  go_wp2_with fail
  go_loopw [15] (fun v wr => ∃ (i : Nat) (s : Nat → Value), i ≤ n ∧ v = .int .i64 i ∧ OwnN wr lb n (Rw.mls t i) ∧ Stk3 wr (lb + 2) ob (XS t i) s ∧ lb + 2 ≤ wr.heap.size ∧ Kept (fun _ => False) w wr) (fun v _ => n - (intOf v).toNat)
  case atStart => exact ⟨0, fun _ => .slice none 0 0, Nat.zero_le _, rfl, by rw [Rw.mls_zero, HL.out]; exact hO1.out, hS0.out, hB1.out, hk1.out⟩
  case round =>
    obtain ⟨i, s, hin, rfl, hO, hS, hB, hkept⟩ := hrel
    have HK := Lib.hid hkept
    have HB := Lib.hid hB
    clear hkept hB
    by_cases hi' : i < n
    · obtain ⟨ad, x, rfl, hx, hcx⟩ := (HA.out.kept HK.out (fun _ _ => id)).cell hi'
      have hvx := HV.out x (List.mem_of_getElem? hx)
      have HX := Lib.hid hx
      obtain ⟨old, _, hold⟩ := hO.any hi'
      have hfr := hO.free i
      have hO2 := Lib.hid (hO.set hi' (-1))
      have hkl : Kept (fun b => b = lb) wr (wr.setCell ⟨lb, i, none⟩ (.int .i64 (-1))) := (Kept.refl (fun b => b = lb) wr).setCell (p := ⟨lb, i, none⟩) rfl _
      have hS2 := Lib.hid (hS.kept hkl (fun b e => by have := hob'.out; exact ⟨by omega, by omega⟩))
      have hK2 : Hid (Kept (fun _ => False) w (wr.setCell ⟨lb, i, none⟩ (.int .i64 (-1)))) := HK.out.fresh hkl (fun k hk e => by have := HLB.out; omega)
      have hB2 : Hid (lb + 2 ≤ (wr.setCell ⟨lb, i, none⟩ (.int .i64 (-1))).heap.size) := by have := HB.out; show _ ≤ _; simpa using this
      have hcx2 : (wr.setCell ⟨lb, i, none⟩ (.int .i64 (-1))).cell? (ad.add i) = some (.int .i32 x) := by
        obtain ⟨ad1, e1, h1⟩ := (HA.out.kept hK2.out (fun _ _ => id)).2 i x hx
        injection e1 with e1
        subst e1
        exact h1
      have b1 : decide (i < n) = true := decide_eq_true hi'
      have b2 : decide ((i : Int) < (n : Int)) = true := decide_eq_true (by omega)
      have t1 : (0 : Int) ≤ (i : Int) := by omega
      have t2 : (i : Int) < (n : Int) := by omega
      have hxl := XS_len t i
      clear hO hS hx
      go_upto_region 7 with fail
      clear hold hfr hkl HK HB
      generalize wr.setCell ⟨lb, i, none⟩ (.int .i64 (-1)) = W2 at *
      cases ho : Rw.kdo x with
      | some k =>
        obtain ⟨hxk, hk3⟩ := Rw.kdo_some ho
        have cO : ∀ W, Calls Tryd.prog 51 #[.string ⟨#[40, 91, 123]⟩, .int .i32 x] W fun e w' => e = .returned (.int .i64 (k : Int)) ∧ Kept (fun _ => False) W w' := fun W => by
          have := idxo_any x hvx W
          rw [ho] at this
          exact this
        have HXK : Hid (t[i]? = some (Rw.opn k)) := by show _ = _; rw [HX.out, hxk]
        clear ho hvx hxk
        go_upto_region 9 with (go_at_call 51; refine (cO _).mono ?_; rintro e w3 ⟨rfl, hk3w⟩)
        have HS3 := Lib.hid (hS2.out.kept hk3w (fun b e => e.elim))
        have HO3 := Lib.hid (hO2.out.kept hk3w id)
        have HK3 := Lib.hid (hK2.out.trans hk3w)
        have HB3 := Nat.le_trans hB2.out hk3w.size
        obtain ⟨A', c', hsk, hmc, _⟩ := HS3.out.form hk3
        have hown := HS3.out.own k hk3
        have g1 := HS3.out.cell k hk3
        have hm := hxl k
        obtain ⟨m, hmm⟩ : ∃ m, (XS t i k).length = m := ⟨_, rfl⟩
        obtain ⟨xs, hxs⟩ : ∃ xs, (XS t i k).map (Value.int .i64) = xs := ⟨_, rfl⟩
        have HMM := Lib.hid hmm
        have HXS := Lib.hid hxs
        have HSK := Lib.hid hsk
        rw [hsk] at g1
        rw [hsk, hmm, hxs] at hown
        rw [hmm] at g1 hm
        have t3 : (0 : Int) ≤ (k : Int) := by omega
        have t4 : (k : Int) < 3 := by omega
        clear cO hk3w hsk hmc hmm hxs hcx2 hcx hxl
        go_wp2_with (at_builtin; refine wpList_append_own_at _ rfl (.tmp 30) (.tmp 32) 38 rfl (lb + 2) 3 i0 (.int .i64 0) 1 8 Tryd.underlying38 hi hz0 hz1 hz2 rfl (by decide) _ _ _ rfl (hown.alloc _) ⟨_, 0, none⟩ 1 1 [.int .i64 (i : Int)] rfl rfl one_cell one_one (by unfold maxLen; omega) (by omega) (by simp; omega) ?_; intro v' w4 hown' hgrow _ hat; obtain ⟨A5, c5, rfl⟩ := ownsRow_form hown'; have hmid := HS3.out.mid hk3 (by rw [HSK.out, HMM.out]; exact hgrow); have m1 := hmid.1; have m2 := hmid.2; rw [HSK.out, HMM.out] at m1; have HP := Lib.hid (HS3.out.push hk3 (x := (i : Int)) (by rw [HSK.out, HMM.out]; exact hgrow) (by rw [HMM.out, HXS.out]; exact hown') (by rw [HSK.out, HMM.out]; exact hat)); have HK4 := Lib.hid (Kept.grew (HK3.out.alloc (.cells #[.int .i64 (i : Int)] 3)) hgrow (fun q hq => by have := (hown.lt q hq).1; have := HLB.out; omega)); have HKF : Hid (Kept (fun b => lb + 1 ≤ b) w3 (w4.setCell ⟨ob, k, none⟩ (.slice A5 (m + 1) c5))) := (((Kept.refl (fun b => lb + 1 ≤ b) w3).alloc _).trans (grown_kept hgrow (fun b hb => by have := (hown.lt b hb).1; omega))).setCell (p := ⟨ob, k, none⟩) (by have := hob'.out; show lb + 1 ≤ ob; omega) _; clear hown' hgrow hat hmid HK4)
        go_roundw
        case rel => exact ⟨i + 1, upd s k (.slice A5 (m + 1) c5), by omega, by go_num, by rw [mls_o hk3 HXK.out]; exact HO3.out.kept HKF.out (by omega), HP.out.congr (XS_open hk3 HXK.out), Nat.le_trans HB3 HKF.out.size, HK3.out.fresh HKF.out (fun q hq e => by have := HLB.out; omega)⟩
        case measure => simp [intOf] <;> omega
      | none =>
        have HON := Lib.hid ho
        have cO : ∀ W, Calls Tryd.prog 51 #[.string ⟨#[40, 91, 123]⟩, .int .i32 x] W fun e w' => e = .returned (.int .i64 (-1)) ∧ Kept (fun _ => False) W w' := fun W => by
          have := idxo_any x hvx W
          rw [ho] at this
          exact this
        cases hs' : Rw.kds x with
        | some k =>
          obtain ⟨hxk, hk3⟩ := Rw.kds_some hs'
          have cS : ∀ W, Calls Tryd.prog 51 #[.string ⟨#[41, 93, 125]⟩, .int .i32 x] W fun e w' => e = .returned (.int .i64 (k : Int)) ∧ Kept (fun _ => False) W w' := fun W => by
            have := idxs_any x hvx W
            rw [hs'] at this
            exact this
          have HXK : Hid (t[i]? = some (Rw.sht k)) := by show _ = _; rw [HX.out, hxk]
          have HCS := Lib.hid cS
          clear ho hs' hvx hxk cS
          go_upto_region 8 with (go_at_call 51; refine (cO _).mono ?_; rintro e w3 ⟨rfl, hk3w⟩)
          clear cO
          have cS := HCS.out
          go_upto_region 11 with (go_at_call 51; refine (cS _).mono ?_; rintro e w4 ⟨rfl, hk4w⟩)
          clear cS HCS
          have hk4 := hk3w.trans hk4w
          have HS3 := Lib.hid (hS2.out.kept hk4 (fun b e => e.elim))
          have HO3 := Lib.hid (hO2.out.kept hk4 id)
          have HK3 := Lib.hid (hK2.out.trans hk4)
          have HB3 := Nat.le_trans hB2.out hk4.size
          obtain ⟨A', c', hsk, hmc, hfm⟩ := HS3.out.form hk3
          have g1 := HS3.out.cell k hk3
          have t3 : (0 : Int) ≤ (k : Int) := by omega
          have t4 : (k : Int) < 3 := by omega
          have b3 : decide ((0 : Int) ≤ (k : Int)) = true := decide_eq_true t3
          clear hk3w hk4w hk4 hcx2 hcx
          cases hst : Rw.stk t k i with
          | nil =>
            have hX0 : (XS t i k).length = 0 := by unfold XS; rw [hst]; rfl
            have HST := Lib.hid hst
            rw [hsk, hX0] at g1
            clear hsk hmc hfm hst hxl hX0
            go_wp2_with fail
            go_roundw
            case rel => exact ⟨i + 1, s, by omega, by go_num, by rw [mls_e hk3 HXK.out HST.out]; exact HO3.out, HS3.out.congr (XS_empty hk3 HXK.out HST.out), HB3, HK3.out⟩
            case measure => simp [intOf] <;> omega
          | cons p l =>
            obtain ⟨hX, hXU⟩ := XS_shut hk3 HXK.out hst
            have HPP := Lib.hid (mls_p hk3 HXK.out hst)
            have hpi := (Rw.stk_mem i p (by rw [hst]; simp)).1
            obtain ⟨ys, hys⟩ : ∃ ys, l.reverse.map (fun (j : Nat) => (j : Int)) = ys := ⟨_, rfl⟩
            rw [hys] at hX hXU
            obtain ⟨m, hm⟩ : ∃ m, ys.length = m := ⟨_, rfl⟩
            have hXm : (XS t i k).length = m + 1 := by rw [hX, List.length_append, hm]; rfl
            rw [hXm] at hsk hmc hfm
            obtain ⟨g, rfl, hcells⟩ := hfm (by omega)
            have hcp := hcells m (p : Int) (by rw [hX, List.getElem?_append_right (by omega), hm, Nat.sub_self]; rfl)
            have hmi := XS_len t i k
            rw [hXm] at hmi
            rw [hsk] at g1
            have HXU := Lib.hid hXU
            have HX' := Lib.hid hX
            have HM := Lib.hid hm
            have HSK := Lib.hid hsk
            have hown := HS3.out.own k hk3
            have hgB : Hid (lb + 2 ≤ g) := (hown.lt g (by rw [hsk]; rfl)).1
            have hf1 := HS3.out.free k
            have b4 : decide ((0 : Int) < ((m + 1 : Nat) : Int)) = true := decide_eq_true (by omega)
            have b5 : decide (0 < m + 1) = true := decide_eq_true (by omega)
            have t5 : (0 : Int) ≤ (m : Int) := by omega
            have t6 : (m : Int) < ((m + 1 : Nat) : Int) := by omega
            have t7 : (m : Int) < (m : Int) + 1 := by omega
            have t8 : IntKind.i64.wrap (((m + 1 : Nat) : Int) - 1) = (m : Int) := wrapI (by omega) (by omega) (by omega)
            have t9 : (m : Int) ≤ (c' : Int) := by omega
            have hl1 : t.length = n := HL.out
            obtain ⟨o1, _, hold⟩ := HO3.out.any hi'
            have hfr := HO3.out.free i
            clear hst hX hXU hys hm hsk hcells hmc hfm hXm hxl hown
            go_upto_region 14 with fail
            have hkl5 : Kept (fun b => b = lb) w4 (w4.setCell ⟨lb, i, none⟩ (.int .i64 (p : Int))) := (Kept.refl (fun b => b = lb) w4).setCell (p := ⟨lb, i, none⟩) rfl _
            have HO5 := Lib.hid (HO3.out.set hi' (p : Int))
            have HS5 := Lib.hid (HS3.out.kept hkl5 (fun b e => by have := hob'.out; exact ⟨by omega, by omega⟩))
            have HK5 : Hid (Kept (fun _ => False) w (w4.setCell ⟨lb, i, none⟩ (.int .i64 (p : Int)))) := HK3.out.fresh hkl5 (fun q hq e => by have := HLB.out; omega)
            have HB5 : Hid (lb + 2 ≤ (w4.setCell ⟨lb, i, none⟩ (.int .i64 (p : Int))).heap.size) := Nat.le_trans HB3 hkl5.size
            clear hkl5 hold hfr hf1 g1 hcp
            generalize w4.setCell ⟨lb, i, none⟩ (.int .i64 (p : Int)) = W5 at *
            have hli : W5.cell? ⟨lb, i, none⟩ = some (.int .i64 (p : Int)) := HO5.out.cell (by rw [List.getElem?_set_self]; rw [List.length_set, Rw.mls_len, hl1]; exact hi')
            have hpn : p < n := by omega
            obtain ⟨o2, _, hold2⟩ := HO5.out.any hpn
            have hfr2 := HO5.out.free p
            have t10 : (0 : Int) ≤ (p : Int) := by omega
            have t11 : (p : Int) < (n : Int) := by omega
            go_upto_region 15 with fail
            have hkl6 : Kept (fun b => b = lb) W5 (W5.setCell ⟨lb, p, none⟩ (.int .i64 (i : Int))) := (Kept.refl (fun b => b = lb) W5).setCell (p := ⟨lb, p, none⟩) rfl _
            have HO6 := Lib.hid (HO5.out.set hpn (i : Int))
            have HS6 := Lib.hid (HS5.out.kept hkl6 (fun b e => by have := hob'.out; exact ⟨by omega, by omega⟩))
            have HK6 : Hid (Kept (fun _ => False) w (W5.setCell ⟨lb, p, none⟩ (.int .i64 (i : Int)))) := HK5.out.fresh hkl6 (fun q hq e => by have := HLB.out; omega)
            have HB6 : Hid (lb + 2 ≤ (W5.setCell ⟨lb, p, none⟩ (.int .i64 (i : Int))).heap.size) := Nat.le_trans HB5.out hkl6.size
            clear hkl6 hli hold2 hfr2
            generalize W5.setCell ⟨lb, p, none⟩ (.int .i64 (i : Int)) = W6 at *
            have g2 := HS6.out.cell k hk3
            rw [HSK.out] at g2
            have hf2 := HS6.out.free k
            go_wp2_with fail
            have hklf : Kept (fun b => b = ob) W6 (W6.setCell ⟨ob, k, none⟩ (.slice (some ⟨g, 0, none⟩) m c')) := (Kept.refl (fun b => b = ob) W6).setCell (p := ⟨ob, k, none⟩) rfl _
            have HKF := Lib.hid hklf
            clear hklf
            go_roundw
            case rel => exact ⟨i + 1, upd s k (.slice (some ⟨g, 0, none⟩) m c'), by omega, by go_num, by rw [HPP.out]; exact HO6.out.kept HKF.out (fun (e : lb = ob) => by have := hob'.out; omega), (HS6.out.pop hk3 HSK.out HX'.out HM.out).congr HXU.out, Nat.le_trans HB6.out HKF.out.size, HK6.out.fresh HKF.out (fun q hq e => by have := HLB.out; have := hob'.out; omega)⟩
            case measure => simp [intOf] <;> omega
        | none =>
          have HSN := Lib.hid hs'
          have cS : ∀ W, Calls Tryd.prog 51 #[.string ⟨#[41, 93, 125]⟩, .int .i32 x] W fun e w' => e = .returned (.int .i64 (-1)) ∧ Kept (fun _ => False) W w' := fun W => by
            have := idxs_any x hvx W
            rw [hs'] at this
            exact this
          have HCS := Lib.hid cS
          clear ho hs' hvx cS
          go_upto_region 8 with (go_at_call 51; refine (cO _).mono ?_; rintro e w3 ⟨rfl, hk3w⟩)
          clear cO
          have cS := HCS.out
          go_upto_region 11 with (go_at_call 51; refine (cS _).mono ?_; rintro e w4 ⟨rfl, hk4w⟩)
          clear cS HCS
          have hk4 := hk3w.trans hk4w
          have HS3 := Lib.hid (hS2.out.kept hk4 (fun b e => e.elim))
          have HO3 := Lib.hid (hO2.out.kept hk4 id)
          have HK3 := Lib.hid (hK2.out.trans hk4)
          have HB3 := Nat.le_trans hB2.out hk4.size
          clear hk3w hk4w hk4 hcx2 hcx hxl
          go_wp2_with fail
          go_roundw
          case rel => exact ⟨i + 1, s, by omega, by go_num, by rw [mls_n HX.out HON.out HSN.out]; exact HO3.out, HS3.out.congr (XS_none HX.out HON.out HSN.out), HB3, HK3.out⟩
          case measure => simp [intOf] <;> omega
    · obtain rfl : i = n := by omega
      have b1 : decide (i < i) = false := decide_eq_false (by omega)
      have b2 : decide ((i : Int) < (i : Int)) = false := decide_eq_false (by omega)
      have HN := Lib.hid hO.nums
      clear hO hS
      go_wp2_with fail
      go_ret
      exact ⟨lb, rfl, HN.out, by rw [HLB.out]; exact Nat.le_refl _, HK.out⟩
end Go.Proofs.YtohmhjeimeilcaaDoor
