/-
  SO MANY STEPS AHEAD, OR BACK, among stops in order: of the program.
-/
import Derived.Test.YtclmcieegoobkaaDoorWdS
set_option linter.unusedVariables false
namespace Go.Proofs.YtclmcieegoobkaaDoor
open Go Go.RowKit

theorem Rw.cnt_le {S : List Nat} {x m : Nat} (hs : S.Pairwise (· < ·)) (h : ∀ j a, S[j]? = some a → (j < m ↔ a < x)) (M : Nat) (hM : M = if S[m]? = some x then m + 1 else m) : ∀ j a, S[j]? = some a → (j < M ↔ a ≤ x) := by
  intro j a hj
  have h1 := h j a hj
  have hp : ∀ (i j a b : Nat), S[i]? = some a → S[j]? = some b → i < j → a < b := fun i j a b hi hj hij => by
    obtain ⟨h1, e1⟩ := List.getElem?_eq_some_iff.1 hi
    obtain ⟨h2, e2⟩ := List.getElem?_eq_some_iff.1 hj
    have := List.pairwise_iff_getElem.1 hs i j h1 h2 hij
    omega
  by_cases hx : S[m]? = some x
  · rw [if_pos hx] at hM
    subst hM
    rcases Nat.lt_trichotomy j m with h3 | h3 | h3
    · omega
    · subst h3
      rw [hx] at hj
      injection hj with hj
      omega
    · have := hp m j x a hx hj h3; omega
  · rw [if_neg hx] at hM
    subst hM
    constructor
    · intro h2; omega
    · intro h2
      rcases Nat.lt_or_ge j M with h3 | h3
      · exact h3
      · exfalso
        have hxa : a = x := by omega
        subst hxa
        rcases Nat.lt_or_ge M j with h4 | h4
        · have hlt := (List.getElem?_eq_some_iff.1 hj).1
          have hM : S[M]? = some (S[M]'(by omega)) := List.getElem?_eq_getElem (by omega)
          have h5 := hp M j _ a hM hj h4
          have h6 := h M _ hM
          omega
        · have : j = M := by omega
          subst this
          exact hx hj
theorem Rw.lst_at (t : List Int) (m : Nat) (hm : (Rw.cel t (t.length + 1)).length = m + 1) : (Rw.cel t (t.length + 1))[m]? = some (Rw.lst t) := by
  unfold Rw.lst
  rw [List.getLastD_eq_getLast?, List.getLast?_eq_getElem?, hm, Nat.add_sub_cancel]
  rw [List.getElem?_eq_getElem (show m < (Rw.cel t (t.length + 1)).length by omega)]
  rfl
theorem Rw.cel_pos (t : List Int) (n : Nat) : ∃ m, (Rw.cel t (n + 1)).length = m + 1 := by
  have h0 := Rw.cel_zero t n
  rcases Nat.eq_zero_or_pos (Rw.cel t (n + 1)).length with h | h
  · rw [List.getElem?_eq_none (by omega)] at h0; cases h0
  · exact ⟨_, (Nat.succ_pred_eq_of_pos h).symm⟩
set_option maxRecDepth 100000 in
set_option maxHeartbeats 1000000 in
theorem ahead_b (g cap m k c : Nat) (t : List Int) (big : Bool) (w : World) (hm : (Rw.cel t (t.length + 1)).length = m + 1) (hC : Cels w g t big (Rw.cel t (t.length + 1))) (hn : t.length ≤ 6000) (hk : k ≤ t.length) (hc : c ≤ 998) :
    Calls Tryd.prog 53 #[.slice (some ⟨g, 0, none⟩) (m + 1) cap, .func (.func 54) #[] #[], .int .i64 k, .int .i64 ((c : Int) + 1)] w fun e w' => e = .returned (.int .i64 (Rw.its (Rw.nx (Rw.stp t big false) (Rw.lst t)) (c + 1) k : Nat)) ∧ Kept (fun _ => False) w w' := by
  have cB := begins_any g cap (m + 1) t big w hm hC hn
  have hs := Rw.stp_sorted t big false
  have hle := Rw.stp_le t big false
  have hlst := Rw.lst_at t m hm
  have hlm : (Rw.stp t big false).length ≤ m + 1 := by rw [← hm]; exact List.length_filter_le _ _
  have hmn : m + 1 ≤ 6001 := by have := Rw.cel_len t (t.length + 1); omega
  have h0 := hC.c0 m _ hlst
  have hits := Rw.its_nx (Rw.stp t big false) (Rw.lst t) hs hle c k
  generalize Rw.stp t big false = S at *
  generalize Rw.lst t = L at *
  have HH := Lib.hid hits
  have HS := Lib.hid hs
  clear hits hle hm hC hlst hs
  have hlen : (S.map fun (i : Nat) => (i : Int)).length = S.length := by simp
  rw [hlen] at cB
  generalize hl : S.length = n at *
  clear hlen
  have HL := Lib.hid hl
  clear hl
  go_enter Tryd.func53, Tryd.ntmps53
  go_wp2_with (go_at_call 54; refine cB.mono ?_; rintro e w1 ⟨hk1, A, c1, rfl, hN⟩; have HK := Lib.hid hk1; have HN := Lib.hid hN; have h0' := cell_kept hk1 h0 id; clear hk1 hN h0 cB)
  refine (bs_any A n c1 S k w1 HN.out HS.out (by omega) (by omega)).mono ?_
  rintro e w2 ⟨⟨i, hi, hid, rfl⟩, hw⟩
  have hw2 := hw.symm
  clear hw
  subst hw2
  obtain ⟨F, hF⟩ : ∃ F, decide (S[i]? = some k) = F := ⟨_, rfl⟩
  obtain ⟨M, hM⟩ : ∃ M, M = if S[i]? = some k then i + 1 else i := ⟨_, rfl⟩
  have hMl : M ≤ n := by
    rw [hM]
    split
    · rename_i h
      have := (List.getElem?_eq_some_iff.1 h).1
      have := HL.out
      omega
    · exact hi
  have HR := Lib.hid (HH.out M (Rw.cnt_le HS.out hid M hM) hMl)
  rw [hF]
  cases F
  · rw [if_neg (of_decide_eq_false hF)] at hM
    subst hM
    clear hid hF HH hMl
    by_cases hlt : M + c < n
    · obtain ⟨ad, v, rfl, hv, hcl⟩ := HN.out.cell hlt
      have hRv : Hid (((Rw.its (Rw.nx S L) (c + 1) k : Nat) : Int) = v) := by
        show _ = _
        rw [HR.out]
        rw [List.getElem?_map] at hv
        cases hx : S[M + c]? with
        | none => rw [hx] at hv; cases hv
        | some y => rw [hx] at hv; injection hv
      clear hv
      go_wp2
      go_ret
      rw [hRv.out]
      exact ⟨rfl, HK.out⟩
    · have hRv : Hid (Rw.its (Rw.nx S L) (c + 1) k = L) := by
        show _ = _
        rw [HR.out, List.getElem?_eq_none (by rw [HL.out]; omega)]
        rfl
      go_wp2
      go_ret
      rw [hRv.out]
      exact ⟨rfl, HK.out⟩
  · rw [if_pos (of_decide_eq_true hF)] at hM
    subst hM
    clear hid hF HH
    by_cases hlt : i + 1 + c < n
    · obtain ⟨ad, v, rfl, hv, hcl⟩ := HN.out.cell hlt
      have hRv : Hid (((Rw.its (Rw.nx S L) (c + 1) k : Nat) : Int) = v) := by
        show _ = _
        rw [HR.out]
        rw [List.getElem?_map] at hv
        cases hx : S[i + 1 + c]? with
        | none => rw [hx] at hv; cases hv
        | some y => rw [hx] at hv; injection hv
      clear hv
      go_wp2
      go_ret
      rw [hRv.out]
      exact ⟨rfl, HK.out⟩
    · have hRv : Hid (Rw.its (Rw.nx S L) (c + 1) k = L) := by
        show _ = _
        rw [HR.out, List.getElem?_eq_none (by rw [HL.out]; omega)]
        rfl
      go_wp2
      go_ret
      rw [hRv.out]
      exact ⟨rfl, HK.out⟩
set_option maxRecDepth 100000 in
set_option maxHeartbeats 1000000 in
theorem ahead_e (g cap m k c : Nat) (t : List Int) (big : Bool) (w : World) (hm : (Rw.cel t (t.length + 1)).length = m + 1) (hC : Cels w g t big (Rw.cel t (t.length + 1))) (hn : t.length ≤ 6000) (hk : k ≤ t.length) (hc : c ≤ 998) :
    Calls Tryd.prog 53 #[.slice (some ⟨g, 0, none⟩) (m + 1) cap, .func (.func 55) #[] #[], .int .i64 k, .int .i64 ((c : Int) + 1)] w fun e w' => e = .returned (.int .i64 (Rw.its (Rw.nx (Rw.stp t big true) (Rw.lst t)) (c + 1) k : Nat)) ∧ Kept (fun _ => False) w w' := by
  have cB := ends_any g cap (m + 1) t big w hm hC hn
  have hs := Rw.stp_sorted t big true
  have hle := Rw.stp_le t big true
  have hlst := Rw.lst_at t m hm
  have hlm : (Rw.stp t big true).length ≤ m + 1 := by rw [← hm]; exact List.length_filter_le _ _
  have hmn : m + 1 ≤ 6001 := by have := Rw.cel_len t (t.length + 1); omega
  have h0 := hC.c0 m _ hlst
  have hits := Rw.its_nx (Rw.stp t big true) (Rw.lst t) hs hle c k
  generalize Rw.stp t big true = S at *
  generalize Rw.lst t = L at *
  have HH := Lib.hid hits
  have HS := Lib.hid hs
  clear hits hle hm hC hlst hs
  have hlen : (S.map fun (i : Nat) => (i : Int)).length = S.length := by simp
  rw [hlen] at cB
  generalize hl : S.length = n at *
  clear hlen
  have HL := Lib.hid hl
  clear hl
  go_enter Tryd.func53, Tryd.ntmps53
  go_wp2_with (go_at_call 55; refine cB.mono ?_; rintro e w1 ⟨hk1, A, c1, rfl, hN⟩; have HK := Lib.hid hk1; have HN := Lib.hid hN; have h0' := cell_kept hk1 h0 id; clear hk1 hN h0 cB)
  refine (bs_any A n c1 S k w1 HN.out HS.out (by omega) (by omega)).mono ?_
  rintro e w2 ⟨⟨i, hi, hid, rfl⟩, hw⟩
  have hw2 := hw.symm
  clear hw
  subst hw2
  obtain ⟨F, hF⟩ : ∃ F, decide (S[i]? = some k) = F := ⟨_, rfl⟩
  obtain ⟨M, hM⟩ : ∃ M, M = if S[i]? = some k then i + 1 else i := ⟨_, rfl⟩
  have hMl : M ≤ n := by
    rw [hM]
    split
    · rename_i h
      have := (List.getElem?_eq_some_iff.1 h).1
      have := HL.out
      omega
    · exact hi
  have HR := Lib.hid (HH.out M (Rw.cnt_le HS.out hid M hM) hMl)
  rw [hF]
  cases F
  · rw [if_neg (of_decide_eq_false hF)] at hM
    subst hM
    clear hid hF HH hMl
    by_cases hlt : M + c < n
    · obtain ⟨ad, v, rfl, hv, hcl⟩ := HN.out.cell hlt
      have hRv : Hid (((Rw.its (Rw.nx S L) (c + 1) k : Nat) : Int) = v) := by
        show _ = _
        rw [HR.out]
        rw [List.getElem?_map] at hv
        cases hx : S[M + c]? with
        | none => rw [hx] at hv; cases hv
        | some y => rw [hx] at hv; injection hv
      clear hv
      go_wp2
      go_ret
      rw [hRv.out]
      exact ⟨rfl, HK.out⟩
    · have hRv : Hid (Rw.its (Rw.nx S L) (c + 1) k = L) := by
        show _ = _
        rw [HR.out, List.getElem?_eq_none (by rw [HL.out]; omega)]
        rfl
      go_wp2
      go_ret
      rw [hRv.out]
      exact ⟨rfl, HK.out⟩
  · rw [if_pos (of_decide_eq_true hF)] at hM
    subst hM
    clear hid hF HH
    by_cases hlt : i + 1 + c < n
    · obtain ⟨ad, v, rfl, hv, hcl⟩ := HN.out.cell hlt
      have hRv : Hid (((Rw.its (Rw.nx S L) (c + 1) k : Nat) : Int) = v) := by
        show _ = _
        rw [HR.out]
        rw [List.getElem?_map] at hv
        cases hx : S[i + 1 + c]? with
        | none => rw [hx] at hv; cases hv
        | some y => rw [hx] at hv; injection hv
      clear hv
      go_wp2
      go_ret
      rw [hRv.out]
      exact ⟨rfl, HK.out⟩
    · have hRv : Hid (Rw.its (Rw.nx S L) (c + 1) k = L) := by
        show _ = _
        rw [HR.out, List.getElem?_eq_none (by rw [HL.out]; omega)]
        rfl
      go_wp2
      go_ret
      rw [hRv.out]
      exact ⟨rfl, HK.out⟩
set_option maxRecDepth 100000 in
set_option maxHeartbeats 1000000 in
theorem back_any (g cap m k c : Nat) (t : List Int) (big : Bool) (w : World) (hm : (Rw.cel t (t.length + 1)).length = m + 1) (hC : Cels w g t big (Rw.cel t (t.length + 1))) (hn : t.length ≤ 6000) (hk : k ≤ t.length) (hc : c ≤ 998) :
    Calls Tryd.prog 56 #[.slice (some ⟨g, 0, none⟩) (m + 1) cap, .int .i64 k, .int .i64 ((c : Int) + 1)] w fun e w' => e = .returned (.int .i64 (Rw.its (Rw.pv (Rw.stp t big false)) (c + 1) k : Nat)) ∧ Kept (fun _ => False) w w' := by
  have cB := begins_any g cap (m + 1) t big w hm hC hn
  have hs := Rw.stp_sorted t big false
  have hlm : (Rw.stp t big false).length ≤ m + 1 := by rw [← hm]; exact List.length_filter_le _ _
  have hmn : m + 1 ≤ 6001 := by have := Rw.cel_len t (t.length + 1); omega
  have h0 : w.cell? ⟨g, 0, none⟩ = some (.int .i64 0) := hC.c0 0 0 (Rw.cel_zero t _)
  have hits := Rw.its_pv (Rw.stp t big false) hs c k
  generalize Rw.stp t big false = S at *
  have HH := Lib.hid hits
  have HS := Lib.hid hs
  clear hits hm hC hs
  have hlen : (S.map fun (i : Nat) => (i : Int)).length = S.length := by simp
  rw [hlen] at cB
  generalize hl : S.length = n at *
  clear hlen
  have HL := Lib.hid hl
  clear hl
  go_enter Tryd.func56, Tryd.ntmps56
  go_wp2_with (go_at_call 54; refine cB.mono ?_; rintro e w1 ⟨hk1, A, c1, rfl, hN⟩; have HK := Lib.hid hk1; have HN := Lib.hid hN; have h0' := cell_kept hk1 h0 id; clear hk1 hN h0 cB)
  refine (bs_any A n c1 S k w1 HN.out HS.out (by omega) (by omega)).mono ?_
  rintro e w2 ⟨⟨i, hi, hid, rfl⟩, hw⟩
  have hw2 := hw.symm
  clear hw
  subst hw2
  have HR := Lib.hid (HH.out i hid hi)
  clear hid HH
  obtain ⟨F, hF⟩ : ∃ F, decide (S[i]? = some k) = F := ⟨_, rfl⟩
  rw [hF]
  clear hF
  by_cases hlt : c + 1 ≤ i
  · obtain ⟨d, hd⟩ : ∃ d, d + (c + 1) = i := ⟨i - (c + 1), by omega⟩
    obtain ⟨ad, v, rfl, hv, hcl⟩ := HN.out.cell (j := d) (by omega)
    have hRv : Hid (((Rw.its (Rw.pv S) (c + 1) k : Nat) : Int) = v) := by
      show _ = _
      rw [HR.out, if_pos hlt, show i - (c + 1) = d by omega]
      rw [List.getElem?_map] at hv
      cases hx : S[d]? with
      | none => rw [hx] at hv; cases hv
      | some y => rw [hx] at hv; injection hv
    have hdi : (i : Int) - ((c : Int) + 1) = (d : Int) := by omega
    clear hv hd
    go_wp2
    go_ret
    rw [hRv.out]
    exact ⟨rfl, HK.out⟩
  · have hRv : Hid (Rw.its (Rw.pv S) (c + 1) k = 0) := by
      show _ = _
      rw [HR.out, if_neg hlt]
    go_wp2
    go_ret
    rw [hRv.out]
    exact ⟨rfl, HK.out⟩
end Go.Proofs.YtclmcieegoobkaaDoor
