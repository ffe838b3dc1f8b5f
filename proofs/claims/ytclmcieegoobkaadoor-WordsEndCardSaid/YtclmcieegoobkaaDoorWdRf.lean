/-
  ENDS, of the reference: edge, asked of a cell.
-/
import Derived.Test.YtclmcieegoobkaaDoorWdRe
set_option linter.unusedVariables false
namespace Go.Proofs.YtclmcieegoobkaaDoor
open Go Go.RowKit

set_option maxRecDepth 100000 in
set_option maxHeartbeats 1000000 in
theorem edge_e (A1 A2 : Option Addr) (m c1 c2 k i : Nat) (t : List Int) (big : Bool) (w : World) (hk : (Rw.cel t (t.length + 1))[k]? = some i) (h1 : Nums w A1 m (ats (Rw.cel t (t.length + 1)))) (h2 : Nums w A2 m (kls t big (Rw.cel t (t.length + 1)))) (hm : m ≤ 6001) (hn : t.length ≤ 6000) :
    Calls Tryd.prog 63 #[.slice A1 m c1, .slice A2 m c2, .int .i64 k, .int .i64 1] w fun e w' => e = .returned (.bool (Rw.isE t big i)) ∧ ∃ q, w' = w.drewN q := by
  obtain ⟨a1, rfl, hkm, f1⟩ := ats_cell h1 hk
  obtain ⟨a2, rfl, f2⟩ := kls_cell h2 hk
  have hc := Rw.cel_C hk
  have hi := Rw.cel_lt_n hk
  have hlen := Rw.cel_len t (t.length + 1)
  obtain ⟨q, hq⟩ : ∃ q, Rw.at_ t big i = q := ⟨_, rfl⟩
  rw [hq] at f2
  obtain ⟨V, hV⟩ : ∃ V, Rw.isE t big i = V := ⟨_, rfl⟩
  rw [hV]
  have H1 := Lib.hid h1
  have H2 := Lib.hid h2
  have HK := Lib.hid hk
  have HV := Lib.hid hV
  clear h1 h2 hk hV
  by_cases q0 : q = 0
  · have hR : Hid (V = false) := by show _ = _; rw [← HV.out]; exact Rw.isE_0 (hq.trans q0)
    subst q0
    clear hq hc
    go_enter Tryd.func63, Tryd.ntmps63
    go_wp2
    go_ret
    rw [hR.out]
    exact ⟨rfl, 0, rfl⟩
  by_cases q3 : q = 3
  · have hR : Hid (V = true) := by show _ = _; rw [← HV.out]; exact Rw.isE_3 hc (hq.trans q3)
    subst q3
    clear hq hc q0
    go_enter Tryd.func63, Tryd.ntmps63
    go_wp2
    go_ret
    rw [hR.out]
    exact ⟨rfl, 0, rfl⟩
  have e0 : (q == 0) = false := by rw [beq_eq_false_iff_ne]; exact q0
  have e3 : (q == 3) = false := by rw [beq_eq_false_iff_ne]; exact q3
  have hq0 : Hid (Rw.at_ t big i ≠ 0) := by show _ ≠ _; rw [hq]; exact q0
  have hq3 : Hid (Rw.at_ t big i ≠ 3) := by show _ ≠ _; rw [hq]; exact q3
  have HQ := Lib.hid hq
  clear q0 q3 hq hc
  have hall : (Rw.cel t (t.length + 1)).length = m := by have := H1.out.1; unfold ats at this; simpa using this
  have f1' : w.cell? (a1.add k) = some (.int .i64 (i : Int)) := f1
  have g1 : k = 0 → w.cell? a1 = some (.int .i64 (i : Int)) := fun h => by subst h; simpa [Addr.add] using f1
  clear f1'
  by_cases hkm1 : k + 1 < m
  · obtain ⟨j, hj⟩ : ∃ j, (Rw.cel t (t.length + 1))[k + 1]? = some j := ⟨_, List.getElem?_eq_getElem (by omega)⟩
    have hji := Rw.cel_lt HK.out hj (by omega)
    have hjn := Rw.cel_lt_n hj
    obtain ⟨_, e1, hkm', f3⟩ := ats_cell H1.out hj
    injection e1 with e1
    subst e1
    obtain ⟨_, e2, f4⟩ := kls_cell H2.out hj
    injection e2 with e2
    subst e2
    rw [addr_far _ _ (by omega)] at f3 f4
    obtain ⟨r, hr⟩ : ∃ r, Rw.at_ t big j = r := ⟨_, rfl⟩
    rw [hr] at f4
    have HJ := Lib.hid hj
    have HR := Lib.hid hr
    have b1 : decide ((k : Int) + 1 < 0) = false := decide_eq_false (by omega)
    have b2 : decide ((m : Int) ≤ (k : Int) + 1) = false := decide_eq_false (by omega)
    have b3 : decide (m ≤ k + 1) = false := decide_eq_false (by omega)
    have x1 : (0 : Int) ≤ (k : Int) + 1 := by omega
    have x2 : (k : Int) + 1 < (m : Int) := by omega
    have x3 : ((k : Int) + 1).toNat = k + 1 := by omega
    have x4 : (0 : Int) ≤ (k : Int) := by omega
    have x5 : (k : Int) < (m : Int) := by omega
    have d3 : IntKind.i64.wrap ((i : Int) + 1) = (i : Int) + 1 := IntWalk.i64_in _ ⟨by omega, by omega⟩
    have d4 : IntKind.i64.wrap ((k : Int) + 1) = (k : Int) + 1 := IntWalk.i64_in _ ⟨by omega, by omega⟩
    clear hj hr g1 hall
    by_cases hne : j = i + 1
    · have d1 : ((j : Int) != (i : Int) + 1) = false := by rw [bne_eq_false_iff_eq]; omega
      have hval : Hid (V = (r != q)) := by
        show _ = _
        rw [← HV.out, Rw.edgeE_near HK.out hq0.out hq3.out, HQ.out, ← HR.out, hne]
      clear hne
      by_cases hrq : r = q
      · subst hrq
        have hR : Hid (V = false) := by show _ = _; rw [hval.out]; simp
        go_enter Tryd.func63, Tryd.ntmps63
        go_wp2
        go_quiet (fail)
        go_wp2
        go_ret
        rw [hR.out]
        exact ⟨rfl, _, rfl⟩
      · have r1 : (r != q) = true := by rw [bne_iff_ne]; exact hrq
        have hR : Hid (V = true) := by show _ = _; rw [hval.out]; exact r1
        clear hrq
        go_enter Tryd.func63, Tryd.ntmps63
        go_wp2
        go_quiet (fail)
        go_wp2
        go_ret
        rw [hR.out]
        exact ⟨rfl, _, rfl⟩
    · have hR : Hid (V = true) := by show _ = _; rw [← HV.out]; exact Rw.edgeE_far HK.out HJ.out hne hq0.out
      have d1 : ((j : Int) != (i : Int) + 1) = true := by rw [bne_iff_ne]; omega
      clear hne
      go_enter Tryd.func63, Tryd.ntmps63
      go_wp2
      go_quiet (fail)
      go_wp2
      go_ret
      rw [hR.out]
      exact ⟨rfl, _, rfl⟩
  · have hR : Hid (V = true) := by show _ = _; rw [← HV.out]; exact Rw.edgeE_end HK.out (by omega) hq0.out
    have b1 : decide ((k : Int) + 1 < 0) = false := decide_eq_false (by omega)
    have b2 : decide ((m : Int) ≤ (k : Int) + 1) = true := decide_eq_true (by omega)
    have b3 : decide (m ≤ k + 1) = true := decide_eq_true (by omega)
    clear hall g1 hkm1
    go_enter Tryd.func63, Tryd.ntmps63
    go_wp2
    go_quiet (fail)
    go_wp2
    go_ret
    rw [hR.out]
    exact ⟨rfl, _, rfl⟩
end Go.Proofs.YtclmcieegoobkaaDoor
