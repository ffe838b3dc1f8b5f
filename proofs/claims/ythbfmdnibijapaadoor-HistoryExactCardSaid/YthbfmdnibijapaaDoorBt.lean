/-
  Between OF THE PROGRAM: the patch from one text to another.
-/
import Derived.Test.YthbfmdnibijapaaDoorHz04
import Derived.Test.YthbfmdnibijapaaDoorBtP
import Derived.Test.YthbfmdnibijapaaDoorHz02
import Derived.Laws.Rows
import Derived.Laws.ResultCell
set_option linter.unusedVariables false
namespace Go.Proofs.YthbfmdnibijapaaDoor
open Go Go.RowKit

abbrev patO (a d : Int) (s : ByteArray) : Obj := .cells #[.int .i64 a, .int .i64 d, .string s] 79
abbrev patV (a d : Int) (s : ByteArray) : Value := .agg #[.int .i64 a, .int .i64 d, .string s]
/-- The patch between two lists of runes. -/
abbrev btw (s t : List Int) : Value := patV (Rw.bat s t : Nat) (Rw.bdel s t : Nat) (runesBytes (Rw.bins s t))
set_option maxRecDepth 100000 in
theorem res_pat {fn : Func} {p u : Tmp} (h : fn.results = #[.cell p 79, .tmp u]) (tmps : Array Value) (w : World) (g : Nat) (a d : Int) (s : ByteArray) (fr : Nat × Nat) (hp : tmps.getD p undef = .pointer (some ⟨g, 0, none⟩)) (hg : w.heap[g]? = some (.cells #[.int .i64 a, .int .i64 d, .string s] 79 fr)) :
    (results fn tmps).run Tryd.prog w = .ok (.tuple #[patV a d s, tmps.getD u undef]) w := by
  rw [results_cell_tmp h, hp]
  simp [asAddr, Result.andThen, run_loadVar_row w g _ _ _ _ _ hg Tryd.underlying79 rfl (by kernel_rfl)]
theorem drewN2 (w : World) (a b : Nat) : (w.drewN a).drewN b = w.drewN (a + b) := by simp [World.drewN, Nat.add_assoc]
theorem rev_get {l : List Int} {n p : Nat} {x : Int} (h : l[p]? = some x) (hl : p + n + 1 = l.length) : l.reverse[n]? = some x := by
  rw [List.getElem?_reverse (by omega), show l.length - 1 - n = p by omega, h]
theorem cutB_zero (A : Option Addr) (c : Nat) : cutB A c 0 = A := by
  unfold cutB
  split
  · rfl
  · cases A with
    | none => rfl
    | some a => simp [Addr.add]
theorem Rn.take {w : World} {A : Option Addr} {n m : Nat} {t : List Int} (h : Rn w A n t) (hm : m ≤ n) : Rn w A m (t.take m) := by
  refine ⟨by rw [List.length_take, h.1]; omega, fun j x hj => ?_⟩
  rw [List.getElem?_take] at hj
  split at hj
  · exact h.2 j x hj
  · cases hj
theorem Rn.drop {w : World} {A : Option Addr} {n c lo : Nat} {t : List Int} (h : Rn w A n t) (h1 : lo ≤ n) (hc : n ≤ c) : Rn w (cutB A c lo) (n - lo) (t.drop lo) := by
  have := h.cut h1 (Nat.le_refl n) hc
  rwa [List.take_of_length_le (by have := h.1; omega)] at this
set_option maxRecDepth 100000 in
set_option maxHeartbeats 2000000 in
theorem between_yes (a b : ByteArray) (w : World) (hT : Tabs w) (hma : mayB a = true) (hmb : mayB b = true) :
    Calls Tryd.prog 42 #[.string a, .string b] w fun e w' => e = .returned (.tuple #[btw (rs a) (rs b), .int .i64 0]) ∧ Kept (fun _ => False) w w' := by
  have hka : Kept (fun _ => False) w (w.alloc (patO 0 0 ⟨#[]⟩)) := (Kept.refl _ w).alloc _
  have hTa := hT.kept hka id id
  have hsa := mayB_size hma
  have hsb := mayB_size hmb
  have cA := check_any a (w.alloc (patO 0 0 ⟨#[]⟩)) (by omega) hTa
  have cB := fun W (hW : Tabs W) => check_any b W (by omega) hW
  rw [hma] at cA
  rw [hmb] at cB
  have hla := rs_len a
  have hlb := rs_len b
  have cV := fun W => conv_rs a W (by omega)
  have cU := fun W => conv_rs b W (by omega)
  generalize rs a = s at *
  generalize rs b = t at *
  have HKA := Lib.hid hka
  have HTA := Lib.hid hTa
  have HG0 : Hid ((w.alloc (patO 0 0 ⟨#[]⟩)).heap[w.heap.size]? = some (patO 0 0 ⟨#[]⟩)) := heap_alloc_new w _
  obtain ⟨g, hg⟩ : ∃ g, w.heap.size = g := ⟨_, rfl⟩
  have HGS := Lib.hid hg
  clear hT hma hmb hka hTa
  go_enter Tryd.func42, Tryd.ntmps42
  go_wp2_with fail
  simp only [hg] at HG0 ⊢
  clear hg
  generalize w.alloc (patO 0 0 ⟨#[]⟩) = wa at *
  refine cA.mono ?_
  rintro e w1 ⟨rfl, hk1⟩
  have HK1 := Lib.hid (HKA.out.trans hk1)
  have HT1 := Lib.hid (HTA.out.kept hk1 id id)
  have HG1 := Lib.hid ((hk1.block g (heap_lt HG0.out) id).trans HG0.out)
  clear hk1 cA
  go_wp2_with fail
  refine (cB w1 HT1.out).mono ?_
  rintro e w2 ⟨rfl, hk2⟩
  have HK2 := Lib.hid (HK1.out.trans hk2)
  have HG2 := Lib.hid ((hk2.block g (heap_lt HG1.out) id).trans HG1.out)
  clear hk2 cB
  obtain ⟨ca, w3, hca, hcv, hk3, _, hR3⟩ := cV w2
  obtain ⟨cb, w4, hcb, hcu, hk4, _, hU4⟩ := cU w3
  have HK4 := Lib.hid (HK2.out.trans (hk3.trans hk4))
  have HS := Lib.hid (hR3.kept hk4 (fun _ _ => id))
  have HU := Lib.hid hU4
  have HG4 := Lib.hid ((hk4.block g (by have := hk3.size; have := heap_lt HG2.out; omega) id).trans ((hk3.block g (heap_lt HG2.out) id).trans HG2.out))
  clear hk3 hk4 hR3 hU4 cV cU
  go_wp2_with fail
  obtain ⟨xa, hxa⟩ : ∃ xa, w2.heap.size = xa := ⟨_, rfl⟩
  obtain ⟨xb, hxb⟩ : ∃ xb, w3.heap.size = xb := ⟨_, rfl⟩
  simp only [hxa, hxb] at HS HU ⊢
  clear hxa hxb hcv hcu
  generalize hsl : s.length = ls at *
  generalize htl : t.length = lt at *
  have HSL := Lib.hid hsl
  have HTL := Lib.hid htl
  clear hsl htl
  go_loopw [8] (fun v wr => ∃ j q : Nat, v = .int .i64 j ∧ j ≤ ls ∧ j ≤ lt ∧ Rw.cpl s t = j + Rw.cpl (s.drop j) (t.drop j) ∧ wr = w4.drewN q) (fun v _ => ls - (intOf v).toNat)
  case atStart => exact ⟨0, 0, rfl, Nat.zero_le _, Nat.zero_le _, by rw [List.drop_zero, List.drop_zero, Nat.zero_add], rfl⟩
  case round =>
    obtain ⟨j, q, rfl, hj1, hj2, hc, rfl⟩ := hrel
    have HC := Lib.hid hc
    clear hc
    by_cases hin : j < ls ∧ j < lt
    · obtain ⟨h1, h2⟩ := hin
      obtain ⟨_, x, e1, hx, cx⟩ := HS.out.cell h1
      obtain ⟨_, y, e2, hy, cy⟩ := HU.out.cell h2
      injection e1 with e1
      injection e2 with e2
      subst e1
      subst e2
      rw [addr_add, Nat.zero_add] at cx cy
      have b1 : decide (j < ls) = true := decide_eq_true h1
      have b2 : decide (j < lt) = true := decide_eq_true h2
      by_cases hxy : x = y
      · subst hxy
        have HN : Hid (Rw.cpl s t = j + 1 + Rw.cpl (s.drop (j + 1)) (t.drop (j + 1))) := by show _ = _; rw [HC.out, Rw.cpl_hit hx hy]; omega
        clear hx hy
        go_wp2
        go_quiet (fail)
        go_wp2
        go_roundw
        case rel => exact ⟨j + 1, _, by go_num, by omega, by omega, HN.out, rfl⟩
        case measure => simp [intOf] <;> omega
      · have e1 : (x == y) = false := by rw [beq_eq_false_iff_ne]; exact hxy
        have HJ : Hid (Rw.cpl s t = j) := by show _ = _; rw [HC.out, Rw.cpl_miss hx hy hxy, Nat.add_zero]
        clear hx hy hxy
        have hcx := fun u => run_cut_l u (some ⟨xa, 0, none⟩) ls ca j (j : Int) rfl (by omega) (by omega)
        have hcy := fun u => run_cut_l u (some ⟨xb, 0, none⟩) lt cb j (j : Int) rfl (by omega) (by omega)
        have HX := Lib.hid (HS.out.drop (lo := j) (c := ca) (by omega) (by omega))
        have HY := Lib.hid (HU.out.drop (lo := j) (c := cb) (by omega) (by omega))
        generalize cutB (some ⟨xa, 0, none⟩) ca j = X at *
        generalize cutB (some ⟨xb, 0, none⟩) cb j = Y at *
        have HAT : Hid (Rw.bat s t = j) := by show Rw.cpl s t = j; exact HJ.out
        go_wp2
        go_quiet (fail)
        go_wp2
        go_quiet (fail)
        go_wp2
        clear hcx hcy
        go_loopw [6, 7] (fun v u wr => ∃ m1 m2 n q : Nat, v = .slice X m1 (ca - j) ∧ u = .slice Y m2 (cb - j) ∧ m1 + n + j = ls ∧ m2 + n + j = lt ∧ Rw.cpl (s.drop j).reverse (t.drop j).reverse = n + Rw.cpl ((s.drop j).reverse.drop n) ((t.drop j).reverse.drop n) ∧ wr = w4.drewN q) (fun v _ _ => match v with | .slice _ m _ => m | _ => 0)
        case atStart => exact ⟨ls - j, lt - j, 0, _, rfl, rfl, by omega, by omega, by rw [List.drop_zero, List.drop_zero, Nat.zero_add], by rw [drewN2, drewN2]⟩
        case round =>
          obtain ⟨m1, m2, n, q2, rfl, rfl, hm1, hm2, hc2, rfl⟩ := hrel
          have HC2 := Lib.hid hc2
          clear hc2
          have hsx : (s.drop j).length = ls - j := by rw [List.length_drop, HSL.out]
          have htx0 : (t.drop j).length = lt - j := by rw [List.length_drop, HTL.out]
          have HSX := Lib.hid hsx
          have HTX := Lib.hid htx0
          clear hsx htx0
          rcases Nat.eq_zero_or_pos m1 with h0 | h0
          · subst h0
            have HBS : Hid (Rw.bsf s t = n) := by
              show _ = _
              unfold Rw.bsf
              rw [HAT.out, HC2.out, Rw.cpl_end (.inl (by rw [List.length_reverse, HSX.out]; omega)), Nat.add_zero]
            have hm1e : 0 = Rw.bdel s t := by unfold Rw.bdel; rw [HAT.out, HBS.out, HSL.out]; omega
            have hm2e : ((t.drop j).take m2) = Rw.bins s t := by unfold Rw.bins; rw [HAT.out, HBS.out, HTL.out]; congr 1; omega
            have HM1 := Lib.hid hm1e
            have HM2 := Lib.hid hm2e
            have htx : ∀ q, (convert 105 9 (.slice Y (m2) (cb - j))).run Tryd.prog (w4.drewN q) = .ok (.string (runesBytes ((t.drop j).take (m2)))) (w4.drewN q) := fun q => run_txt (w := w4.drewN q) (show Rn w4 _ _ _ from HY.out.take (by omega))
            have g0 : w4.cell? ⟨g, 0, none⟩ = some (.int .i64 0) := by rw [cell_of_row _ _ _ _ _ _ HG4.out]; rfl
            have g1 : w4.cell? ⟨g, 1, none⟩ = some (.int .i64 0) := by rw [cell_of_row _ _ _ _ _ _ HG4.out]; rfl
            have g2 : w4.cell? ⟨g, 2, none⟩ = some (.string ⟨#[]⟩) := by rw [cell_of_row _ _ _ _ _ _ HG4.out]; rfl
            have k0 : w4.frozen? ⟨g, 0, none⟩ = false := frozen_of HG4.out
            have k1 : w4.frozen? ⟨g, 1, none⟩ = false := frozen_of HG4.out
            have k2 : w4.frozen? ⟨g, 2, none⟩ = false := frozen_of HG4.out
            obtain ⟨Sx, hSx⟩ : ∃ Sx, runesBytes ((t.drop j).take (m2)) = Sx := ⟨_, rfl⟩
            simp only [hSx] at htx
            have HSx := Lib.hid hSx
            clear hSx
            clear hm1e hm2e
            go_wp2
            go_quiet (fail)
            go_wp2
            refine bodyPost_ret (res_pat rfl _ _ g ((j : Nat) : Int) ((0 : Nat) : Int) Sx (0, 0) rfl ((heap_set (heap_set (heap_set (show (w4.drewN _).heap[g]? = _ from HG4.out) _) _) _).trans rfl)) rfl ⟨by unfold btw; rw [HAT.out, ← HM1.out, ← HM2.out, HSx.out]; rfl, ?_⟩
            exact (HK4.out.drewN _).fresh ((((Kept.refl (fun b => b = g) (w4.drewN _)).setCell (p := ⟨g, 0, none⟩) rfl _).setCell (p := ⟨g, 1, none⟩) rfl _).setCell (p := ⟨g, 2, none⟩) rfl _) (fun b hb e => by have := HGS.out; omega)
          · obtain ⟨p, rfl⟩ : ∃ p, m1 = p + 1 := ⟨m1 - 1, by omega⟩
            have bp : decide (0 < p + 1) = true := decide_eq_true (by omega)
            have bp2 : decide ((0 : Int) < (p : Int) + 1) = true := decide_eq_true (by omega)
            clear h0
            rcases Nat.eq_zero_or_pos m2 with h0 | h0
            · subst h0
              have HBS : Hid (Rw.bsf s t = n) := by
                show _ = _
                unfold Rw.bsf
                rw [HAT.out, HC2.out, Rw.cpl_end (.inr (by rw [List.length_reverse, HTX.out]; omega)), Nat.add_zero]
              have hm1e : p + 1 = Rw.bdel s t := by unfold Rw.bdel; rw [HAT.out, HBS.out, HSL.out]; omega
              have hm2e : ((t.drop j).take 0) = Rw.bins s t := by unfold Rw.bins; rw [HAT.out, HBS.out, HTL.out]; congr 1; omega
              have HM1 := Lib.hid hm1e
              have HM2 := Lib.hid hm2e
              have htx : ∀ q, (convert 105 9 (.slice Y (0) (cb - j))).run Tryd.prog (w4.drewN q) = .ok (.string (runesBytes ((t.drop j).take (0)))) (w4.drewN q) := fun q => run_txt (w := w4.drewN q) (show Rn w4 _ _ _ from HY.out.take (by omega))
              have g0 : w4.cell? ⟨g, 0, none⟩ = some (.int .i64 0) := by rw [cell_of_row _ _ _ _ _ _ HG4.out]; rfl
              have g1 : w4.cell? ⟨g, 1, none⟩ = some (.int .i64 0) := by rw [cell_of_row _ _ _ _ _ _ HG4.out]; rfl
              have g2 : w4.cell? ⟨g, 2, none⟩ = some (.string ⟨#[]⟩) := by rw [cell_of_row _ _ _ _ _ _ HG4.out]; rfl
              have k0 : w4.frozen? ⟨g, 0, none⟩ = false := frozen_of HG4.out
              have k1 : w4.frozen? ⟨g, 1, none⟩ = false := frozen_of HG4.out
              have k2 : w4.frozen? ⟨g, 2, none⟩ = false := frozen_of HG4.out
              obtain ⟨Sx, hSx⟩ : ∃ Sx, runesBytes ((t.drop j).take (0)) = Sx := ⟨_, rfl⟩
              simp only [hSx] at htx
              have HSx := Lib.hid hSx
              clear hSx
              clear hm1e hm2e
              go_wp2
              go_quiet (fail)
              go_wp2
              refine bodyPost_ret (res_pat rfl _ _ g ((j : Nat) : Int) ((p + 1 : Nat) : Int) Sx (0, 0) rfl ((heap_set (heap_set (heap_set (show (w4.drewN _).heap[g]? = _ from HG4.out) _) _) _).trans rfl)) rfl ⟨by unfold btw; rw [HAT.out, ← HM1.out, ← HM2.out, HSx.out]; rfl, ?_⟩
              exact (HK4.out.drewN _).fresh ((((Kept.refl (fun b => b = g) (w4.drewN _)).setCell (p := ⟨g, 0, none⟩) rfl _).setCell (p := ⟨g, 1, none⟩) rfl _).setCell (p := ⟨g, 2, none⟩) rfl _) (fun b hb e => by have := HGS.out; omega)
            · obtain ⟨r, rfl⟩ : ∃ r, m2 = r + 1 := ⟨m2 - 1, by omega⟩
              have br : decide (0 < r + 1) = true := decide_eq_true (by omega)
              have br2 : decide ((0 : Int) < (r : Int) + 1) = true := decide_eq_true (by omega)
              clear h0
              obtain ⟨ax, x, rfl, hx, cx⟩ := HX.out.cell (j := p) (by omega)
              obtain ⟨ay, y, rfl, hy, cy⟩ := HY.out.cell (j := r) (by omega)
              have hxr := rev_get (n := n) hx (by rw [HSX.out]; omega)
              have hyr := rev_get (n := n) hy (by rw [HTX.out]; omega)
              have i1 : IntKind.i64.wrap ((p : Int) + 1 - 1) = (p : Int) := by rw [IntWalk.i64_in _ ⟨by omega, by omega⟩]; omega
              have i2 : IntKind.i64.wrap ((r : Int) + 1 - 1) = (r : Int) := by rw [IntWalk.i64_in _ ⟨by omega, by omega⟩]; omega
              have i3 : (0 : Int) ≤ (p : Int) := by omega
              have i4 : (0 : Int) ≤ (r : Int) := by omega
              have i5 : (p : Int) < (p : Int) + 1 := by omega
              have i6 : (r : Int) < (r : Int) + 1 := by omega
              clear hx hy
              by_cases hxy : x = y
              · subst hxy
                have HN : Hid (Rw.cpl (s.drop j).reverse (t.drop j).reverse = n + 1 + Rw.cpl ((s.drop j).reverse.drop (n + 1)) ((t.drop j).reverse.drop (n + 1))) := by show _ = _; rw [HC2.out, Rw.cpl_hit hxr hyr]; omega
                have hux := fun u => run_cut_h u (some ax) (p + 1) (ca - j) p (p : Int) rfl (by omega)
                have huy := fun u => run_cut_h u (some ay) (r + 1) (cb - j) r (r : Int) rfl (by omega)
                rw [cutB_zero] at hux huy
                clear hxr hyr
                go_wp2
                go_quiet (fail)
                go_wp2
                go_quiet (fail)
                go_wp2
                go_roundw
                case rel => exact ⟨p, r, n + 1, _, rfl, rfl, by omega, by omega, HN.out, by rw [drewN2, drewN2]⟩
                case measure => simp
              · have e1 : (x == y) = false := by rw [beq_eq_false_iff_ne]; exact hxy
                have HBS : Hid (Rw.bsf s t = n) := by
                  show _ = _
                  unfold Rw.bsf
                  rw [HAT.out, HC2.out, Rw.cpl_miss hxr hyr hxy, Nat.add_zero]
                clear hxr hyr hxy
                have hm1e : p + 1 = Rw.bdel s t := by unfold Rw.bdel; rw [HAT.out, HBS.out, HSL.out]; omega
                have hm2e : ((t.drop j).take (r + 1)) = Rw.bins s t := by unfold Rw.bins; rw [HAT.out, HBS.out, HTL.out]; congr 1; omega
                have HM1 := Lib.hid hm1e
                have HM2 := Lib.hid hm2e
                have htx : ∀ q, (convert 105 9 (.slice (some ay) (r + 1) (cb - j))).run Tryd.prog (w4.drewN q) = .ok (.string (runesBytes ((t.drop j).take (r + 1)))) (w4.drewN q) := fun q => run_txt (w := w4.drewN q) (show Rn w4 _ _ _ from HY.out.take (by omega))
                have g0 : w4.cell? ⟨g, 0, none⟩ = some (.int .i64 0) := by rw [cell_of_row _ _ _ _ _ _ HG4.out]; rfl
                have g1 : w4.cell? ⟨g, 1, none⟩ = some (.int .i64 0) := by rw [cell_of_row _ _ _ _ _ _ HG4.out]; rfl
                have g2 : w4.cell? ⟨g, 2, none⟩ = some (.string ⟨#[]⟩) := by rw [cell_of_row _ _ _ _ _ _ HG4.out]; rfl
                have k0 : w4.frozen? ⟨g, 0, none⟩ = false := frozen_of HG4.out
                have k1 : w4.frozen? ⟨g, 1, none⟩ = false := frozen_of HG4.out
                have k2 : w4.frozen? ⟨g, 2, none⟩ = false := frozen_of HG4.out
                obtain ⟨Sx, hSx⟩ : ∃ Sx, runesBytes ((t.drop j).take (r + 1)) = Sx := ⟨_, rfl⟩
                simp only [hSx] at htx
                have HSx := Lib.hid hSx
                clear hSx
                clear hm1e hm2e
                go_wp2
                go_quiet (fail)
                go_wp2
                refine bodyPost_ret (res_pat rfl _ _ g ((j : Nat) : Int) ((p + 1 : Nat) : Int) Sx (0, 0) rfl ((heap_set (heap_set (heap_set (show (w4.drewN _).heap[g]? = _ from HG4.out) _) _) _).trans rfl)) rfl ⟨by unfold btw; rw [HAT.out, ← HM1.out, ← HM2.out, HSx.out]; rfl, ?_⟩
                exact (HK4.out.drewN _).fresh ((((Kept.refl (fun b => b = g) (w4.drewN _)).setCell (p := ⟨g, 0, none⟩) rfl _).setCell (p := ⟨g, 1, none⟩) rfl _).setCell (p := ⟨g, 2, none⟩) rfl _) (fun b hb e => by have := HGS.out; omega)
    · by_cases hjl : j < ls
      · have hjt : lt ≤ j := by omega
        have b1 : decide (j < ls) = true := decide_eq_true hjl
        have b2 : decide (j < lt) = false := decide_eq_false (by omega)
        have HJ : Hid (Rw.cpl s t = j) := by show _ = _; rw [HC.out, Rw.cpl_end (.inr (by rw [HTL.out]; exact hjt)), Nat.add_zero]
        clear hin hjt
        have hcx := fun u => run_cut_l u (some ⟨xa, 0, none⟩) ls ca j (j : Int) rfl (by omega) (by omega)
        have hcy := fun u => run_cut_l u (some ⟨xb, 0, none⟩) lt cb j (j : Int) rfl (by omega) (by omega)
        have HX := Lib.hid (HS.out.drop (lo := j) (c := ca) (by omega) (by omega))
        have HY := Lib.hid (HU.out.drop (lo := j) (c := cb) (by omega) (by omega))
        generalize cutB (some ⟨xa, 0, none⟩) ca j = X at *
        generalize cutB (some ⟨xb, 0, none⟩) cb j = Y at *
        have HAT : Hid (Rw.bat s t = j) := by show Rw.cpl s t = j; exact HJ.out
        go_wp2
        go_quiet (fail)
        go_wp2
        go_quiet (fail)
        go_wp2
        clear hcx hcy
        go_loopw [6, 7] (fun v u wr => ∃ m1 m2 n q : Nat, v = .slice X m1 (ca - j) ∧ u = .slice Y m2 (cb - j) ∧ m1 + n + j = ls ∧ m2 + n + j = lt ∧ Rw.cpl (s.drop j).reverse (t.drop j).reverse = n + Rw.cpl ((s.drop j).reverse.drop n) ((t.drop j).reverse.drop n) ∧ wr = w4.drewN q) (fun v _ _ => match v with | .slice _ m _ => m | _ => 0)
        case atStart => exact ⟨ls - j, lt - j, 0, _, rfl, rfl, by omega, by omega, by rw [List.drop_zero, List.drop_zero, Nat.zero_add], by rw [drewN2, drewN2]⟩
        case round =>
          obtain ⟨m1, m2, n, q2, rfl, rfl, hm1, hm2, hc2, rfl⟩ := hrel
          have HC2 := Lib.hid hc2
          clear hc2
          have hsx : (s.drop j).length = ls - j := by rw [List.length_drop, HSL.out]
          have htx0 : (t.drop j).length = lt - j := by rw [List.length_drop, HTL.out]
          have HSX := Lib.hid hsx
          have HTX := Lib.hid htx0
          clear hsx htx0
          rcases Nat.eq_zero_or_pos m1 with h0 | h0
          · subst h0
            have HBS : Hid (Rw.bsf s t = n) := by
              show _ = _
              unfold Rw.bsf
              rw [HAT.out, HC2.out, Rw.cpl_end (.inl (by rw [List.length_reverse, HSX.out]; omega)), Nat.add_zero]
            have hm1e : 0 = Rw.bdel s t := by unfold Rw.bdel; rw [HAT.out, HBS.out, HSL.out]; omega
            have hm2e : ((t.drop j).take m2) = Rw.bins s t := by unfold Rw.bins; rw [HAT.out, HBS.out, HTL.out]; congr 1; omega
            have HM1 := Lib.hid hm1e
            have HM2 := Lib.hid hm2e
            have htx : ∀ q, (convert 105 9 (.slice Y (m2) (cb - j))).run Tryd.prog (w4.drewN q) = .ok (.string (runesBytes ((t.drop j).take (m2)))) (w4.drewN q) := fun q => run_txt (w := w4.drewN q) (show Rn w4 _ _ _ from HY.out.take (by omega))
            have g0 : w4.cell? ⟨g, 0, none⟩ = some (.int .i64 0) := by rw [cell_of_row _ _ _ _ _ _ HG4.out]; rfl
            have g1 : w4.cell? ⟨g, 1, none⟩ = some (.int .i64 0) := by rw [cell_of_row _ _ _ _ _ _ HG4.out]; rfl
            have g2 : w4.cell? ⟨g, 2, none⟩ = some (.string ⟨#[]⟩) := by rw [cell_of_row _ _ _ _ _ _ HG4.out]; rfl
            have k0 : w4.frozen? ⟨g, 0, none⟩ = false := frozen_of HG4.out
            have k1 : w4.frozen? ⟨g, 1, none⟩ = false := frozen_of HG4.out
            have k2 : w4.frozen? ⟨g, 2, none⟩ = false := frozen_of HG4.out
            obtain ⟨Sx, hSx⟩ : ∃ Sx, runesBytes ((t.drop j).take (m2)) = Sx := ⟨_, rfl⟩
            simp only [hSx] at htx
            have HSx := Lib.hid hSx
            clear hSx
            clear hm1e hm2e
            go_wp2
            go_quiet (fail)
            go_wp2
            refine bodyPost_ret (res_pat rfl _ _ g ((j : Nat) : Int) ((0 : Nat) : Int) Sx (0, 0) rfl ((heap_set (heap_set (heap_set (show (w4.drewN _).heap[g]? = _ from HG4.out) _) _) _).trans rfl)) rfl ⟨by unfold btw; rw [HAT.out, ← HM1.out, ← HM2.out, HSx.out]; rfl, ?_⟩
            exact (HK4.out.drewN _).fresh ((((Kept.refl (fun b => b = g) (w4.drewN _)).setCell (p := ⟨g, 0, none⟩) rfl _).setCell (p := ⟨g, 1, none⟩) rfl _).setCell (p := ⟨g, 2, none⟩) rfl _) (fun b hb e => by have := HGS.out; omega)
          · obtain ⟨p, rfl⟩ : ∃ p, m1 = p + 1 := ⟨m1 - 1, by omega⟩
            have bp : decide (0 < p + 1) = true := decide_eq_true (by omega)
            have bp2 : decide ((0 : Int) < (p : Int) + 1) = true := decide_eq_true (by omega)
            clear h0
            rcases Nat.eq_zero_or_pos m2 with h0 | h0
            · subst h0
              have HBS : Hid (Rw.bsf s t = n) := by
                show _ = _
                unfold Rw.bsf
                rw [HAT.out, HC2.out, Rw.cpl_end (.inr (by rw [List.length_reverse, HTX.out]; omega)), Nat.add_zero]
              have hm1e : p + 1 = Rw.bdel s t := by unfold Rw.bdel; rw [HAT.out, HBS.out, HSL.out]; omega
              have hm2e : ((t.drop j).take 0) = Rw.bins s t := by unfold Rw.bins; rw [HAT.out, HBS.out, HTL.out]; congr 1; omega
              have HM1 := Lib.hid hm1e
              have HM2 := Lib.hid hm2e
              have htx : ∀ q, (convert 105 9 (.slice Y (0) (cb - j))).run Tryd.prog (w4.drewN q) = .ok (.string (runesBytes ((t.drop j).take (0)))) (w4.drewN q) := fun q => run_txt (w := w4.drewN q) (show Rn w4 _ _ _ from HY.out.take (by omega))
              have g0 : w4.cell? ⟨g, 0, none⟩ = some (.int .i64 0) := by rw [cell_of_row _ _ _ _ _ _ HG4.out]; rfl
              have g1 : w4.cell? ⟨g, 1, none⟩ = some (.int .i64 0) := by rw [cell_of_row _ _ _ _ _ _ HG4.out]; rfl
              have g2 : w4.cell? ⟨g, 2, none⟩ = some (.string ⟨#[]⟩) := by rw [cell_of_row _ _ _ _ _ _ HG4.out]; rfl
              have k0 : w4.frozen? ⟨g, 0, none⟩ = false := frozen_of HG4.out
              have k1 : w4.frozen? ⟨g, 1, none⟩ = false := frozen_of HG4.out
              have k2 : w4.frozen? ⟨g, 2, none⟩ = false := frozen_of HG4.out
              obtain ⟨Sx, hSx⟩ : ∃ Sx, runesBytes ((t.drop j).take (0)) = Sx := ⟨_, rfl⟩
              simp only [hSx] at htx
              have HSx := Lib.hid hSx
              clear hSx
              clear hm1e hm2e
              go_wp2
              go_quiet (fail)
              go_wp2
              refine bodyPost_ret (res_pat rfl _ _ g ((j : Nat) : Int) ((p + 1 : Nat) : Int) Sx (0, 0) rfl ((heap_set (heap_set (heap_set (show (w4.drewN _).heap[g]? = _ from HG4.out) _) _) _).trans rfl)) rfl ⟨by unfold btw; rw [HAT.out, ← HM1.out, ← HM2.out, HSx.out]; rfl, ?_⟩
              exact (HK4.out.drewN _).fresh ((((Kept.refl (fun b => b = g) (w4.drewN _)).setCell (p := ⟨g, 0, none⟩) rfl _).setCell (p := ⟨g, 1, none⟩) rfl _).setCell (p := ⟨g, 2, none⟩) rfl _) (fun b hb e => by have := HGS.out; omega)
            · obtain ⟨r, rfl⟩ : ∃ r, m2 = r + 1 := ⟨m2 - 1, by omega⟩
              have br : decide (0 < r + 1) = true := decide_eq_true (by omega)
              have br2 : decide ((0 : Int) < (r : Int) + 1) = true := decide_eq_true (by omega)
              clear h0
              obtain ⟨ax, x, rfl, hx, cx⟩ := HX.out.cell (j := p) (by omega)
              obtain ⟨ay, y, rfl, hy, cy⟩ := HY.out.cell (j := r) (by omega)
              have hxr := rev_get (n := n) hx (by rw [HSX.out]; omega)
              have hyr := rev_get (n := n) hy (by rw [HTX.out]; omega)
              have i1 : IntKind.i64.wrap ((p : Int) + 1 - 1) = (p : Int) := by rw [IntWalk.i64_in _ ⟨by omega, by omega⟩]; omega
              have i2 : IntKind.i64.wrap ((r : Int) + 1 - 1) = (r : Int) := by rw [IntWalk.i64_in _ ⟨by omega, by omega⟩]; omega
              have i3 : (0 : Int) ≤ (p : Int) := by omega
              have i4 : (0 : Int) ≤ (r : Int) := by omega
              have i5 : (p : Int) < (p : Int) + 1 := by omega
              have i6 : (r : Int) < (r : Int) + 1 := by omega
              clear hx hy
              by_cases hxy : x = y
              · subst hxy
                have HN : Hid (Rw.cpl (s.drop j).reverse (t.drop j).reverse = n + 1 + Rw.cpl ((s.drop j).reverse.drop (n + 1)) ((t.drop j).reverse.drop (n + 1))) := by show _ = _; rw [HC2.out, Rw.cpl_hit hxr hyr]; omega
                have hux := fun u => run_cut_h u (some ax) (p + 1) (ca - j) p (p : Int) rfl (by omega)
                have huy := fun u => run_cut_h u (some ay) (r + 1) (cb - j) r (r : Int) rfl (by omega)
                rw [cutB_zero] at hux huy
                clear hxr hyr
                go_wp2
                go_quiet (fail)
                go_wp2
                go_quiet (fail)
                go_wp2
                go_roundw
                case rel => exact ⟨p, r, n + 1, _, rfl, rfl, by omega, by omega, HN.out, by rw [drewN2, drewN2]⟩
                case measure => simp
              · have e1 : (x == y) = false := by rw [beq_eq_false_iff_ne]; exact hxy
                have HBS : Hid (Rw.bsf s t = n) := by
                  show _ = _
                  unfold Rw.bsf
                  rw [HAT.out, HC2.out, Rw.cpl_miss hxr hyr hxy, Nat.add_zero]
                clear hxr hyr hxy
                have hm1e : p + 1 = Rw.bdel s t := by unfold Rw.bdel; rw [HAT.out, HBS.out, HSL.out]; omega
                have hm2e : ((t.drop j).take (r + 1)) = Rw.bins s t := by unfold Rw.bins; rw [HAT.out, HBS.out, HTL.out]; congr 1; omega
                have HM1 := Lib.hid hm1e
                have HM2 := Lib.hid hm2e
                have htx : ∀ q, (convert 105 9 (.slice (some ay) (r + 1) (cb - j))).run Tryd.prog (w4.drewN q) = .ok (.string (runesBytes ((t.drop j).take (r + 1)))) (w4.drewN q) := fun q => run_txt (w := w4.drewN q) (show Rn w4 _ _ _ from HY.out.take (by omega))
                have g0 : w4.cell? ⟨g, 0, none⟩ = some (.int .i64 0) := by rw [cell_of_row _ _ _ _ _ _ HG4.out]; rfl
                have g1 : w4.cell? ⟨g, 1, none⟩ = some (.int .i64 0) := by rw [cell_of_row _ _ _ _ _ _ HG4.out]; rfl
                have g2 : w4.cell? ⟨g, 2, none⟩ = some (.string ⟨#[]⟩) := by rw [cell_of_row _ _ _ _ _ _ HG4.out]; rfl
                have k0 : w4.frozen? ⟨g, 0, none⟩ = false := frozen_of HG4.out
                have k1 : w4.frozen? ⟨g, 1, none⟩ = false := frozen_of HG4.out
                have k2 : w4.frozen? ⟨g, 2, none⟩ = false := frozen_of HG4.out
                obtain ⟨Sx, hSx⟩ : ∃ Sx, runesBytes ((t.drop j).take (r + 1)) = Sx := ⟨_, rfl⟩
                simp only [hSx] at htx
                have HSx := Lib.hid hSx
                clear hSx
                clear hm1e hm2e
                go_wp2
                go_quiet (fail)
                go_wp2
                refine bodyPost_ret (res_pat rfl _ _ g ((j : Nat) : Int) ((p + 1 : Nat) : Int) Sx (0, 0) rfl ((heap_set (heap_set (heap_set (show (w4.drewN _).heap[g]? = _ from HG4.out) _) _) _).trans rfl)) rfl ⟨by unfold btw; rw [HAT.out, ← HM1.out, ← HM2.out, HSx.out]; rfl, ?_⟩
                exact (HK4.out.drewN _).fresh ((((Kept.refl (fun b => b = g) (w4.drewN _)).setCell (p := ⟨g, 0, none⟩) rfl _).setCell (p := ⟨g, 1, none⟩) rfl _).setCell (p := ⟨g, 2, none⟩) rfl _) (fun b hb e => by have := HGS.out; omega)
      · have b1 : decide (j < ls) = false := decide_eq_false hjl
        have HJ : Hid (Rw.cpl s t = j) := by show _ = _; rw [HC.out, Rw.cpl_end (.inl (by rw [HSL.out]; omega)), Nat.add_zero]
        clear hin hjl
        have hcx := fun u => run_cut_l u (some ⟨xa, 0, none⟩) ls ca j (j : Int) rfl (by omega) (by omega)
        have hcy := fun u => run_cut_l u (some ⟨xb, 0, none⟩) lt cb j (j : Int) rfl (by omega) (by omega)
        have HX := Lib.hid (HS.out.drop (lo := j) (c := ca) (by omega) (by omega))
        have HY := Lib.hid (HU.out.drop (lo := j) (c := cb) (by omega) (by omega))
        generalize cutB (some ⟨xa, 0, none⟩) ca j = X at *
        generalize cutB (some ⟨xb, 0, none⟩) cb j = Y at *
        have HAT : Hid (Rw.bat s t = j) := by show Rw.cpl s t = j; exact HJ.out
        go_wp2
        go_quiet (fail)
        go_wp2
        go_quiet (fail)
        go_wp2
        clear hcx hcy
        go_loopw [6, 7] (fun v u wr => ∃ m1 m2 n q : Nat, v = .slice X m1 (ca - j) ∧ u = .slice Y m2 (cb - j) ∧ m1 + n + j = ls ∧ m2 + n + j = lt ∧ Rw.cpl (s.drop j).reverse (t.drop j).reverse = n + Rw.cpl ((s.drop j).reverse.drop n) ((t.drop j).reverse.drop n) ∧ wr = w4.drewN q) (fun v _ _ => match v with | .slice _ m _ => m | _ => 0)
        case atStart => exact ⟨ls - j, lt - j, 0, _, rfl, rfl, by omega, by omega, by rw [List.drop_zero, List.drop_zero, Nat.zero_add], by rw [drewN2, drewN2]⟩
        case round =>
          obtain ⟨m1, m2, n, q2, rfl, rfl, hm1, hm2, hc2, rfl⟩ := hrel
          have HC2 := Lib.hid hc2
          clear hc2
          have hsx : (s.drop j).length = ls - j := by rw [List.length_drop, HSL.out]
          have htx0 : (t.drop j).length = lt - j := by rw [List.length_drop, HTL.out]
          have HSX := Lib.hid hsx
          have HTX := Lib.hid htx0
          clear hsx htx0
          rcases Nat.eq_zero_or_pos m1 with h0 | h0
          · subst h0
            have HBS : Hid (Rw.bsf s t = n) := by
              show _ = _
              unfold Rw.bsf
              rw [HAT.out, HC2.out, Rw.cpl_end (.inl (by rw [List.length_reverse, HSX.out]; omega)), Nat.add_zero]
            have hm1e : 0 = Rw.bdel s t := by unfold Rw.bdel; rw [HAT.out, HBS.out, HSL.out]; omega
            have hm2e : ((t.drop j).take m2) = Rw.bins s t := by unfold Rw.bins; rw [HAT.out, HBS.out, HTL.out]; congr 1; omega
            have HM1 := Lib.hid hm1e
            have HM2 := Lib.hid hm2e
            have htx : ∀ q, (convert 105 9 (.slice Y (m2) (cb - j))).run Tryd.prog (w4.drewN q) = .ok (.string (runesBytes ((t.drop j).take (m2)))) (w4.drewN q) := fun q => run_txt (w := w4.drewN q) (show Rn w4 _ _ _ from HY.out.take (by omega))
            have g0 : w4.cell? ⟨g, 0, none⟩ = some (.int .i64 0) := by rw [cell_of_row _ _ _ _ _ _ HG4.out]; rfl
            have g1 : w4.cell? ⟨g, 1, none⟩ = some (.int .i64 0) := by rw [cell_of_row _ _ _ _ _ _ HG4.out]; rfl
            have g2 : w4.cell? ⟨g, 2, none⟩ = some (.string ⟨#[]⟩) := by rw [cell_of_row _ _ _ _ _ _ HG4.out]; rfl
            have k0 : w4.frozen? ⟨g, 0, none⟩ = false := frozen_of HG4.out
            have k1 : w4.frozen? ⟨g, 1, none⟩ = false := frozen_of HG4.out
            have k2 : w4.frozen? ⟨g, 2, none⟩ = false := frozen_of HG4.out
            obtain ⟨Sx, hSx⟩ : ∃ Sx, runesBytes ((t.drop j).take (m2)) = Sx := ⟨_, rfl⟩
            simp only [hSx] at htx
            have HSx := Lib.hid hSx
            clear hSx
            clear hm1e hm2e
            go_wp2
            go_quiet (fail)
            go_wp2
            refine bodyPost_ret (res_pat rfl _ _ g ((j : Nat) : Int) ((0 : Nat) : Int) Sx (0, 0) rfl ((heap_set (heap_set (heap_set (show (w4.drewN _).heap[g]? = _ from HG4.out) _) _) _).trans rfl)) rfl ⟨by unfold btw; rw [HAT.out, ← HM1.out, ← HM2.out, HSx.out]; rfl, ?_⟩
            exact (HK4.out.drewN _).fresh ((((Kept.refl (fun b => b = g) (w4.drewN _)).setCell (p := ⟨g, 0, none⟩) rfl _).setCell (p := ⟨g, 1, none⟩) rfl _).setCell (p := ⟨g, 2, none⟩) rfl _) (fun b hb e => by have := HGS.out; omega)
          · obtain ⟨p, rfl⟩ : ∃ p, m1 = p + 1 := ⟨m1 - 1, by omega⟩
            have bp : decide (0 < p + 1) = true := decide_eq_true (by omega)
            have bp2 : decide ((0 : Int) < (p : Int) + 1) = true := decide_eq_true (by omega)
            clear h0
            rcases Nat.eq_zero_or_pos m2 with h0 | h0
            · subst h0
              have HBS : Hid (Rw.bsf s t = n) := by
                show _ = _
                unfold Rw.bsf
                rw [HAT.out, HC2.out, Rw.cpl_end (.inr (by rw [List.length_reverse, HTX.out]; omega)), Nat.add_zero]
              have hm1e : p + 1 = Rw.bdel s t := by unfold Rw.bdel; rw [HAT.out, HBS.out, HSL.out]; omega
              have hm2e : ((t.drop j).take 0) = Rw.bins s t := by unfold Rw.bins; rw [HAT.out, HBS.out, HTL.out]; congr 1; omega
              have HM1 := Lib.hid hm1e
              have HM2 := Lib.hid hm2e
              have htx : ∀ q, (convert 105 9 (.slice Y (0) (cb - j))).run Tryd.prog (w4.drewN q) = .ok (.string (runesBytes ((t.drop j).take (0)))) (w4.drewN q) := fun q => run_txt (w := w4.drewN q) (show Rn w4 _ _ _ from HY.out.take (by omega))
              have g0 : w4.cell? ⟨g, 0, none⟩ = some (.int .i64 0) := by rw [cell_of_row _ _ _ _ _ _ HG4.out]; rfl
              have g1 : w4.cell? ⟨g, 1, none⟩ = some (.int .i64 0) := by rw [cell_of_row _ _ _ _ _ _ HG4.out]; rfl
              have g2 : w4.cell? ⟨g, 2, none⟩ = some (.string ⟨#[]⟩) := by rw [cell_of_row _ _ _ _ _ _ HG4.out]; rfl
              have k0 : w4.frozen? ⟨g, 0, none⟩ = false := frozen_of HG4.out
              have k1 : w4.frozen? ⟨g, 1, none⟩ = false := frozen_of HG4.out
              have k2 : w4.frozen? ⟨g, 2, none⟩ = false := frozen_of HG4.out
              obtain ⟨Sx, hSx⟩ : ∃ Sx, runesBytes ((t.drop j).take (0)) = Sx := ⟨_, rfl⟩
              simp only [hSx] at htx
              have HSx := Lib.hid hSx
              clear hSx
              clear hm1e hm2e
              go_wp2
              go_quiet (fail)
              go_wp2
              refine bodyPost_ret (res_pat rfl _ _ g ((j : Nat) : Int) ((p + 1 : Nat) : Int) Sx (0, 0) rfl ((heap_set (heap_set (heap_set (show (w4.drewN _).heap[g]? = _ from HG4.out) _) _) _).trans rfl)) rfl ⟨by unfold btw; rw [HAT.out, ← HM1.out, ← HM2.out, HSx.out]; rfl, ?_⟩
              exact (HK4.out.drewN _).fresh ((((Kept.refl (fun b => b = g) (w4.drewN _)).setCell (p := ⟨g, 0, none⟩) rfl _).setCell (p := ⟨g, 1, none⟩) rfl _).setCell (p := ⟨g, 2, none⟩) rfl _) (fun b hb e => by have := HGS.out; omega)
            · obtain ⟨r, rfl⟩ : ∃ r, m2 = r + 1 := ⟨m2 - 1, by omega⟩
              have br : decide (0 < r + 1) = true := decide_eq_true (by omega)
              have br2 : decide ((0 : Int) < (r : Int) + 1) = true := decide_eq_true (by omega)
              clear h0
              obtain ⟨ax, x, rfl, hx, cx⟩ := HX.out.cell (j := p) (by omega)
              obtain ⟨ay, y, rfl, hy, cy⟩ := HY.out.cell (j := r) (by omega)
              have hxr := rev_get (n := n) hx (by rw [HSX.out]; omega)
              have hyr := rev_get (n := n) hy (by rw [HTX.out]; omega)
              have i1 : IntKind.i64.wrap ((p : Int) + 1 - 1) = (p : Int) := by rw [IntWalk.i64_in _ ⟨by omega, by omega⟩]; omega
              have i2 : IntKind.i64.wrap ((r : Int) + 1 - 1) = (r : Int) := by rw [IntWalk.i64_in _ ⟨by omega, by omega⟩]; omega
              have i3 : (0 : Int) ≤ (p : Int) := by omega
              have i4 : (0 : Int) ≤ (r : Int) := by omega
              have i5 : (p : Int) < (p : Int) + 1 := by omega
              have i6 : (r : Int) < (r : Int) + 1 := by omega
              clear hx hy
              by_cases hxy : x = y
              · subst hxy
                have HN : Hid (Rw.cpl (s.drop j).reverse (t.drop j).reverse = n + 1 + Rw.cpl ((s.drop j).reverse.drop (n + 1)) ((t.drop j).reverse.drop (n + 1))) := by show _ = _; rw [HC2.out, Rw.cpl_hit hxr hyr]; omega
                have hux := fun u => run_cut_h u (some ax) (p + 1) (ca - j) p (p : Int) rfl (by omega)
                have huy := fun u => run_cut_h u (some ay) (r + 1) (cb - j) r (r : Int) rfl (by omega)
                rw [cutB_zero] at hux huy
                clear hxr hyr
                go_wp2
                go_quiet (fail)
                go_wp2
                go_quiet (fail)
                go_wp2
                go_roundw
                case rel => exact ⟨p, r, n + 1, _, rfl, rfl, by omega, by omega, HN.out, by rw [drewN2, drewN2]⟩
                case measure => simp
              · have e1 : (x == y) = false := by rw [beq_eq_false_iff_ne]; exact hxy
                have HBS : Hid (Rw.bsf s t = n) := by
                  show _ = _
                  unfold Rw.bsf
                  rw [HAT.out, HC2.out, Rw.cpl_miss hxr hyr hxy, Nat.add_zero]
                clear hxr hyr hxy
                have hm1e : p + 1 = Rw.bdel s t := by unfold Rw.bdel; rw [HAT.out, HBS.out, HSL.out]; omega
                have hm2e : ((t.drop j).take (r + 1)) = Rw.bins s t := by unfold Rw.bins; rw [HAT.out, HBS.out, HTL.out]; congr 1; omega
                have HM1 := Lib.hid hm1e
                have HM2 := Lib.hid hm2e
                have htx : ∀ q, (convert 105 9 (.slice (some ay) (r + 1) (cb - j))).run Tryd.prog (w4.drewN q) = .ok (.string (runesBytes ((t.drop j).take (r + 1)))) (w4.drewN q) := fun q => run_txt (w := w4.drewN q) (show Rn w4 _ _ _ from HY.out.take (by omega))
                have g0 : w4.cell? ⟨g, 0, none⟩ = some (.int .i64 0) := by rw [cell_of_row _ _ _ _ _ _ HG4.out]; rfl
                have g1 : w4.cell? ⟨g, 1, none⟩ = some (.int .i64 0) := by rw [cell_of_row _ _ _ _ _ _ HG4.out]; rfl
                have g2 : w4.cell? ⟨g, 2, none⟩ = some (.string ⟨#[]⟩) := by rw [cell_of_row _ _ _ _ _ _ HG4.out]; rfl
                have k0 : w4.frozen? ⟨g, 0, none⟩ = false := frozen_of HG4.out
                have k1 : w4.frozen? ⟨g, 1, none⟩ = false := frozen_of HG4.out
                have k2 : w4.frozen? ⟨g, 2, none⟩ = false := frozen_of HG4.out
                obtain ⟨Sx, hSx⟩ : ∃ Sx, runesBytes ((t.drop j).take (r + 1)) = Sx := ⟨_, rfl⟩
                simp only [hSx] at htx
                have HSx := Lib.hid hSx
                clear hSx
                clear hm1e hm2e
                go_wp2
                go_quiet (fail)
                go_wp2
                refine bodyPost_ret (res_pat rfl _ _ g ((j : Nat) : Int) ((p + 1 : Nat) : Int) Sx (0, 0) rfl ((heap_set (heap_set (heap_set (show (w4.drewN _).heap[g]? = _ from HG4.out) _) _) _).trans rfl)) rfl ⟨by unfold btw; rw [HAT.out, ← HM1.out, ← HM2.out, HSx.out]; rfl, ?_⟩
                exact (HK4.out.drewN _).fresh ((((Kept.refl (fun b => b = g) (w4.drewN _)).setCell (p := ⟨g, 0, none⟩) rfl _).setCell (p := ⟨g, 1, none⟩) rfl _).setCell (p := ⟨g, 2, none⟩) rfl _) (fun b hb e => by have := HGS.out; omega)
end Go.Proofs.YthbfmdnibijapaaDoor
