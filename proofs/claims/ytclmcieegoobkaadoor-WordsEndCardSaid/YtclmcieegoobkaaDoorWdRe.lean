/-
  BEGINS AND ENDS, of the reference: edge, asked of a cell.
-/
import Derived.Test.YtclmcieegoobkaaDoorWdR
set_option linter.unusedVariables false
namespace Go.Proofs.YtclmcieegoobkaaDoor
open Go Go.RowKit

theorem ats_cell {w : World} {A : Option Addr} {m k i : Nat} {l : List Nat} (h : Nums w A m (ats l)) (hk : l[k]? = some i) : ∃ ad, A = some ad ∧ k < m ∧ w.cell? (ad.add k) = some (.int .i64 (i : Int)) := by
  have hx : (ats l)[k]? = some (i : Int) := by unfold ats; rw [List.getElem?_map, hk]; rfl
  obtain ⟨ad, e, hc⟩ := h.2 k _ hx
  refine ⟨ad, e, ?_, hc⟩
  have := (List.getElem?_eq_some_iff.1 hx).1
  rw [h.1] at this
  exact this
theorem kls_cell {w : World} {A : Option Addr} {m k i : Nat} {t : List Int} {big : Bool} {l : List Nat} (h : Nums w A m (kls t big l)) (hk : l[k]? = some i) : ∃ ad, A = some ad ∧ w.cell? (ad.add k) = some (.int .i64 (Rw.at_ t big i)) := by
  have hx : (kls t big l)[k]? = some (Rw.at_ t big i) := by unfold kls; rw [List.getElem?_map, hk]; rfl
  exact h.2 k _ hx
set_option maxRecDepth 100000 in
set_option maxHeartbeats 1000000 in
theorem edge_b (A1 A2 : Option Addr) (m c1 c2 n k i : Nat) (t : List Int) (big : Bool) (w : World) (hk : (Rw.cel t (n + 1))[k]? = some i) (h1 : Nums w A1 m (ats (Rw.cel t (n + 1)))) (h2 : Nums w A2 m (kls t big (Rw.cel t (n + 1)))) (hm : m ≤ 6001) (hn : n ≤ 6000) :
    Calls Tryd.prog 63 #[.slice A1 m c1, .slice A2 m c2, .int .i64 k, .int .i64 (-1)] w fun e w' => e = .returned (.bool (Rw.isB t big i)) ∧ ∃ q, w' = w.drewN q := by
  obtain ⟨a1, rfl, hkm, f1⟩ := ats_cell h1 hk
  obtain ⟨a2, rfl, f2⟩ := kls_cell h2 hk
  have hc := Rw.cel_C hk
  have hi := Rw.cel_lt_n hk
  have hlen := Rw.cel_len t (n + 1)
  obtain ⟨q, hq⟩ : ∃ q, Rw.at_ t big i = q := ⟨_, rfl⟩
  rw [hq] at f2
  obtain ⟨V, hV⟩ : ∃ V, Rw.isB t big i = V := ⟨_, rfl⟩
  rw [hV]
  have H1 := Lib.hid h1
  have H2 := Lib.hid h2
  have HK := Lib.hid hk
  have HV := Lib.hid hV
  clear h1 h2 hk hV
  by_cases q0 : q = 0
  · have hR : Hid (V = false) := by show _ = _; rw [← HV.out]; exact Rw.isB_0 (hq.trans q0)
    subst q0
    clear hq hc
    go_enter Tryd.func63, Tryd.ntmps63
    go_wp2
    go_ret
    rw [hR.out]
    exact ⟨rfl, 0, rfl⟩
  by_cases q3 : q = 3
  · have hR : Hid (V = true) := by show _ = _; rw [← HV.out]; exact Rw.isB_3 hc (hq.trans q3)
    subst q3
    clear hq hc q0
    go_enter Tryd.func63, Tryd.ntmps63
    go_wp2
    go_ret
    rw [hR.out]
    exact ⟨rfl, 0, rfl⟩
  have e0 : (q == 0) = false := by rw [beq_eq_false_iff_ne]; exact q0
  have e3 : (q == 3) = false := by rw [beq_eq_false_iff_ne]; exact q3
  have hq0 : Hid (Rw.at_ t big i ≠ 0) := by show _ ≠ _; rw [hq]; exact q0
  have hq3 : Hid (Rw.at_ t big i ≠ 3) := by show _ ≠ _; rw [hq]; exact q3
  have HQ := Lib.hid hq
  clear q0 q3 hq hc
  rcases Nat.eq_zero_or_pos k with hk0 | hk0
  · subst hk0
    have f1' : w.cell? a1 = some (.int .i64 (i : Int)) := by simpa [Addr.add] using f1
    have f2' : w.cell? a2 = some (.int .i64 q) := by simpa [Addr.add] using f2
    have hR : Hid (V = true) := by show _ = _; rw [← HV.out]; exact Rw.edgeB_first HK.out hq0.out
    go_enter Tryd.func63, Tryd.ntmps63
    go_wp2
    go_quiet (fail)
    go_wp2
    go_ret
    rw [hR.out]
    exact ⟨rfl, _, rfl⟩
  · obtain ⟨k', rfl⟩ : ∃ k', k = k' + 1 := ⟨k - 1, by omega⟩
    rw [addr_far _ _ (by omega)] at f1 f2
    have hkl : k' < (Rw.cel t (n + 1)).length := by have := (List.getElem?_eq_some_iff.1 HK.out).1; omega
    obtain ⟨j, hj⟩ : ∃ j, (Rw.cel t (n + 1))[k']? = some j := ⟨_, List.getElem?_eq_getElem hkl⟩
    have hji := Rw.cel_lt hj HK.out (by omega)
    obtain ⟨_, e1, hkm', f3⟩ := ats_cell H1.out hj
    injection e1 with e1
    subst e1
    obtain ⟨_, e2, f4⟩ := kls_cell H2.out hj
    injection e2 with e2
    subst e2
    obtain ⟨r, hr⟩ : ∃ r, Rw.at_ t big j = r := ⟨_, rfl⟩
    rw [hr] at f4
    have HJ := Lib.hid hj
    have HR := Lib.hid hr
    have hn1 : ((k' + 1 : Nat) : Int) + -1 = (k' : Int) := by omega
    have hn2 : (k' : Int) + 1 + -1 = (k' : Int) := by omega
    have b1 : decide ((k' : Int) < 0) = false := decide_eq_false (by omega)
    have b2 : decide (m ≤ k') = false := decide_eq_false (by omega)
    have x1 : (0 : Int) ≤ (k' : Int) + 1 := by omega
    have x2 : (k' : Int) + 1 < (m : Int) := by omega
    have x3 : ((k' : Int) + 1).toNat = k' + 1 := by omega
    clear hj hr hkl
    by_cases hne : j + 1 = i
    · subst hne
      have d1 : ((j : Int) != ((j + 1 : Nat) : Int) + -1) = false := by simp; omega
      have d2 : ((j : Int) != (j : Int) + 1 + -1) = false := by simp; omega
      have d3 : IntKind.i64.wrap ((j : Int) + 1 + -1) = (j : Int) := by rw [IntWalk.i64_in _ ⟨by omega, by omega⟩]; omega
      have hval : Hid (V = (r != q)) := by show _ = _; rw [← HV.out, Rw.edgeB_near HK.out HJ.out hq0.out hq3.out, HR.out, HQ.out]
      by_cases hrq : r = q
      · subst hrq
        have hR : Hid (V = false) := by show _ = _; rw [hval.out]; simp
        go_enter Tryd.func63, Tryd.ntmps63
        go_wp2
        go_quiet (fail)
        go_wp2
        go_ret
        rw [hR.out]
        exact ⟨rfl, _, rfl⟩
      · have r1 : (r != q) = true := by rw [bne_iff_ne]; exact hrq
        have hR : Hid (V = true) := by show _ = _; rw [hval.out]; exact r1
        clear hrq
        go_enter Tryd.func63, Tryd.ntmps63
        go_wp2
        go_quiet (fail)
        go_wp2
        go_ret
        rw [hR.out]
        exact ⟨rfl, _, rfl⟩
    · have hR : Hid (V = true) := by show _ = _; rw [← HV.out]; exact Rw.edgeB_far HK.out HJ.out hne hq0.out hq3.out
      obtain ⟨i', rfl⟩ : ∃ i', i = i' + 1 := ⟨i - 1, by omega⟩
      have d1 : ((j : Int) != ((i' + 1 : Nat) : Int) + -1) = true := by rw [bne_iff_ne]; omega
      have d2 : ((j : Int) != (i' : Int) + 1 + -1) = true := by rw [bne_iff_ne]; omega
      have d4 : ((j : Int) != (i' : Int)) = true := by rw [bne_iff_ne]; omega
      have d5 : (j != i') = true := by rw [bne_iff_ne]; omega
      have d3 : IntKind.i64.wrap ((i' : Int) + 1 + -1) = (i' : Int) := by rw [IntWalk.i64_in _ ⟨by omega, by omega⟩]; omega
      clear hne
      go_enter Tryd.func63, Tryd.ntmps63
      go_wp2
      go_quiet (fail)
      go_wp2
      go_ret
      rw [hR.out]
      exact ⟨rfl, _, rfl⟩
end Go.Proofs.YtclmcieegoobkaaDoor
