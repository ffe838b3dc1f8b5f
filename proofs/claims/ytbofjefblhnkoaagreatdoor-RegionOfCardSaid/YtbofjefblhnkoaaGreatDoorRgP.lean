/-
  REGIONS, PLAIN: no motion leads out of the text; a row's first rune that is no blank is of the row.
-/
import Derived.Test.YtbofjefblhnkoaaGreatDoorZMe
import Derived.Test.YtbofjefblhnkoaaGreatDoorRgB
import Derived.Test.YtbofjefblhnkoaaGreatDoorLfP
set_option linter.unusedVariables false
namespace Go.Proofs.YtbofjefblhnkoaaGreatDoor.Rw

theorem cel_bound (t : List Int) : ∀ a ∈ cel t (t.length + 1), a ≤ t.length := fun a ha => by
  have := (mem_cel.1 ha).1
  omega
theorem lst_le (t : List Int) : lst t ≤ t.length := by
  unfold lst
  cases h : cel t (t.length + 1) with
  | nil => simp
  | cons a l =>
    have hm : (a :: l).getLastD 0 ∈ cel t (t.length + 1) := by
      rw [h, List.getLastD_cons]
      cases l with
      | nil => simp
      | cons b l => rw [List.getLastD_cons]; exact List.mem_cons_of_mem _ (List.getLastD_mem_cons ..)
    exact cel_bound t _ hm
theorem nx_bound {S : List Nat} {L x n : Nat} (hS : ∀ a ∈ S, a ≤ n) (hL : L ≤ n) : nx S L x ≤ n := by
  unfold nx
  cases h : S.find? (fun a => decide (x < a)) with
  | none => exact hL
  | some a => exact hS a (List.mem_of_find?_eq_some h)
theorem pv_bound {S : List Nat} {x n : Nat} (hS : ∀ a ∈ S, a ≤ n) : pv S x ≤ n := by
  unfold pv
  cases h : (S.filter (fun a => decide (a < x))).getLast? with
  | none => exact Nat.zero_le _
  | some a => exact hS a (List.mem_filter.1 (List.mem_of_getLast? h)).1
theorem stp_bound (t : List Int) (big e : Bool) : ∀ a ∈ stp t big e, a ≤ t.length := fun a ha => Nat.le_trans (stp_le t big e a ha) (lst_le t)
theorem one_bound (t : List Int) (key : Int) (x : Nat) : one t key x ≤ t.length := by
  unfold one
  split
  · exact pv_bound (stp_bound t _ _)
  · exact nx_bound (stp_bound t _ _) (lst_le t)
theorem its_bound {f : Nat → Nat} {n : Nat} (hf : ∀ x, f x ≤ n) : ∀ c x, x ≤ n → its f c x ≤ n
  | 0, x, h => h
  | c + 1, x, h => by unfold its; exact its_bound hf c _ (hf x)
theorem fnd_fwd {t : List Int} {low high r : Int} : ∀ (f : Nat) (k : Int) (c : Nat) (x : Int), fnd t low high 1 r f k c = some x → k ≤ x
  | 0, k, c, x, h => by cases h
  | f + 1, k, c, x, h => by
    by_cases hk : low ≤ k ∧ k < high
    · by_cases hr : t[k.toNat]? = some r
      · by_cases hc : c ≤ 1
        · rw [fnd_hit hk hr hc] at h
          injection h with h
          omega
        · rw [fnd_next hk hr (by omega)] at h
          have := fnd_fwd f _ _ x h
          omega
      · rw [fnd_skip hk hr] at h
        have := fnd_fwd f _ _ x h
        omega
    · rw [fnd_out hk] at h
      cases h
theorem find_bound {t : List Int} {k : Nat} {key r : Int} {c : Nat} {x : Int} (hk : k ≤ t.length) (hkey : Seek key) (h : find t k key r c = some x) : 0 ≤ x ∧ x ≤ (t.length : Int) := by
  have he := en_le t k hk
  unfold find at h
  obtain ⟨y, hy, hx⟩ := Option.map_eq_some_iff.1 h
  have h1 := fnd_in _ _ _ _ hy
  unfold beside at hx
  split at hx
  · next e =>
    subst e
    have h2 := fnd_fwd _ _ _ _ (show fnd t (beg t k) (en t k) 1 r (t.length + 2) (k + 1) c = some y from hy)
    omega
  · split at hx <;> omega
theorem pmv_bound {t : List Int} {g : Nat → Nat} (hg : ∀ x, x ≤ t.length → g x ≤ t.length) : ∀ n k, k ≤ t.length → pmv t g n k ≤ t.length
  | 0, k, h => h
  | n + 1, k, h => by unfold pmv; exact pmv_bound hg n _ (hg k h)
theorem prm_bound {t : List Int} {h : Nat} : ∀ (f j m : Nat), prm t h f j = some m → m < t.length
  | 0, j, m, e => by cases e
  | f + 1, j, m, e => by
    unfold prm at e
    split at e
    · split at e
      · split at e
        · exact (mate_mate e).2.2.1
        · exact prm_bound f _ m e
      · cases e
    · cases e
theorem goM_bound {t : List Int} {k : Nat} {key r : Int} {c : Nat} {x y a kd' x' y' : Int} {M : List (List Int)} (hk : k ≤ t.length) (hx : x = 0 ∨ Seek x) (hM : mOk M) (h : goM t k key r c x y M = some (a, kd', x', y')) : ∃ n : Nat, a = (n : Int) ∧ n ≤ t.length ∧ (kd' = 0 ∨ kd' = 1 ∨ kd' = 2) := by
  unfold goM at h
  split at h
  · obtain ⟨b, hb, e⟩ := Option.map_eq_some_iff.1 h
    unfold wmv at hb
    split at hb
    · cases hb
    · injection hb with hb
      have := its_bound (fun x => one_bound t key x) (times c) k hk
      unfold wgo at hb
      injection e with e1 e2
      injection e2 with e2 _
      refine ⟨its (one t key) (times c) k, by rw [← e1, ← hb], this, ?_⟩
      rw [← e2]
      split
      · exact .inr (.inl rfl)
      · exact .inl rfl
  split at h
  · next hkin =>
    have hs := by_seek.1 hkin
    unfold goSeek at h
    obtain ⟨b, hb, e⟩ := Option.map_eq_some_iff.1 h
    have := find_bound hk hs hb
    injection e with e1 e2
    injection e2 with e2 _
    refine ⟨b.toNat, by omega, by omega, ?_⟩
    rw [← e2]
    split
    · exact .inr (.inl rfl)
    · exact .inl rfl
  split at h
  · split at h
    · cases h
    · next hx0 =>
      unfold goSeek at h
      obtain ⟨b, hb, e⟩ := Option.map_eq_some_iff.1 h
      have hs : Seek (if key = 44 then turn x else x) := by
        split
        · exact turn_seek x
        · exact hx.resolve_left hx0
      revert hb e hs
      generalize (if key = 44 then turn x else x) = q
      intro hb e hs
      have := find_bound hk hs hb
      injection e with e1 e2
      injection e2 with e2 _
      refine ⟨b.toNat, by omega, by omega, ?_⟩
      rw [← e2]
      split
      · exact .inr (.inl rfl)
      · exact .inl rfl
  split at h
  · split at h
    · cases h
    · injection h with h
      injection h with e1 e2
      injection e2 with e2 _
      exact ⟨_, e1.symm, pmv_bound (fun x hx => pst_le t key x hx) _ k hk, .inl e2.symm⟩
  split at h
  · obtain ⟨b, hb, e⟩ := Option.map_eq_some_iff.1 h
    have := prm_bound _ _ _ hb
    injection e with e1 e2
    injection e2 with e2 _
    exact ⟨b, e1.symm, by omega, .inr (.inl e2.symm)⟩
  split at h
  · unfold goMark at h
    split at h
    · cases h
    · next b hb =>
      have hr := hM.range hb
      split at h
      · next hbl =>
        split at h
        · injection h with h
          injection h with e1 e2
          injection e2 with e2 _
          have h1 := fst_le t b.toNat (by omega)
          have h2 := en_le t b.toNat (by omega)
          exact ⟨_, e1.symm, by omega, .inr (.inr e2.symm)⟩
        · injection h with h
          injection h with e1 e2
          injection e2 with e2 _
          exact ⟨b.toNat, by omega, by omega, .inl e2.symm⟩
      · cases h
  · obtain ⟨b, hb, e⟩ := Option.map_eq_some_iff.1 h
    have := to_le t k key c hk b hb
    injection e with e1 e2
    injection e2 with e2 _
    refine ⟨b, e1.symm, this, ?_⟩
    rw [← e2]
    unfold kd
    split
    · exact .inl rfl
    · split
      · exact .inr (.inl rfl)
      · exact .inr (.inr rfl)
end Go.Proofs.YtbofjefblhnkoaaGreatDoor.Rw
