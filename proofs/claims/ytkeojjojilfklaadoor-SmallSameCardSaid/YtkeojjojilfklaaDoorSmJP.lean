/-
  COMMANDS OF SINGLE RUNES: rows joined, as lists of runes.
-/
import Derived.Test.YtkeojjojilfklaaDoorSmD
set_option linter.unusedVariables false
namespace Go.Proofs.YtkeojjojilfklaaDoor
open Go Go.RowKit

/-- Where what is left of the next row begins. -/
def Rw.nx (u : List Int) (k : Nat) : Nat := skp u (en u k + 1)
/-- Does no blank stand between? -/
def Rw.glu (u : List Int) (k : Nat) : Prop := beg u k = en u k ∨ (∃ x, u[en u k - 1]? = some x ∧ cls x = 0) ∨ nx u k = en u (en u k + 1) ∨ u[nx u k]? = some 41
/-- The next row joined. -/
def Rw.jn (u : List Int) (k : Nat) (G : Bool) : List Int := u.take (en u k) ++ (if G then [] else [32]) ++ u.drop (nx u k)
theorem Rw.nx_le (u : List Int) (k : Nat) (h : en u k < u.length) : en u k + 1 ≤ nx u k ∧ nx u k ≤ en u (en u k + 1) ∧ en u (en u k + 1) ≤ u.length :=
  ⟨skp_ge _ _, skp_le _ _, en_le _ _ (by omega)⟩
theorem Rw.nx_fst (u : List Int) (k : Nat) (h : en u k < u.length) : fst u (en u k + 1) = nx u k := by
  unfold fst nx
  rw [beg_stop (en_at u k h)]
theorem Rw.nx_high (u : List Int) (k : Nat) (h : en u k < u.length) : nx u k = en u (en u k + 1) ↔ nx u k = u.length ∨ u[nx u k]? = some 10 := by
  obtain ⟨h1, h2, h3⟩ := nx_le u k h
  constructor
  · intro he
    by_cases hl : nx u k = u.length
    · exact .inl hl
    · rw [he]
      exact .inr (en_at u _ (by omega))
  · rintro (hl | h10)
    · omega
    · by_cases hlt : nx u k < en u (en u k + 1)
      · exact absurd h10 (en_none u _ _ h1 hlt)
      · omega
theorem Rw.jn_len (u : List Int) (k : Nat) (G : Bool) (h : en u k < u.length) : (jn u k G).length = en u k + (if G then 0 else 1) + (u.length - nx u k) := by
  obtain ⟨h1, h2, h3⟩ := nx_le u k h
  unfold jn
  rw [List.length_append, List.length_append, List.length_take, List.length_drop]
  cases G <;> simp <;> omega
theorem Rw.jn_at (u : List Int) (k : Nat) (G : Bool) (h : en u k < u.length) (i : Nat) (hi : i < en u k) : (jn u k G)[i]? = u[i]? := by
  unfold jn
  rw [List.append_assoc, List.getElem?_append_left (by rw [List.length_take]; omega), List.getElem?_take_of_lt hi]
theorem Rw.beg_pre {s t : List Int} : ∀ k, (∀ i, i < k → s[i]? = t[i]?) → beg s k = beg t k
  | 0, _ => rfl
  | k + 1, h => by
    have ih := beg_pre k fun i hi => h i (by omega)
    by_cases h10 : s[k]? = some 10
    · rw [beg_stop h10, beg_stop (by rw [← h k (by omega)]; exact h10)]
    · rw [beg_step h10, beg_step (by rw [← h k (by omega)]; exact h10), ih]
/-- What holds of the runes on the road. -/
structure JnI (t : List Int) (k : Nat) (u : List Int) : Prop where
  le : k ≤ u.length
  beg : Rw.beg u k = Rw.beg t k
  vld : Vld u
  zero : (0 : Int) ∉ u
  bytes : (Utf.bytes u).length ≤ (Utf.bytes t).length
  len : u.length ≤ t.length
theorem JnI.first {s : ByteArray} {k : Nat} (hm : mayB s = true) (hk : k ≤ (rs s).length) : JnI (rs s) k (rs s) := ⟨hk, rfl, rs_vld hm, rs_zero hm, Nat.le_refl _, Nat.le_refl _⟩
theorem JnI.may {s : ByteArray} {k : Nat} {u : List Int} (hm : mayB s = true) (h : JnI (rs s) k u) : mayB (runesBytes u) = true := by
  rw [may_txt h.vld h.zero]
  have h1 := h.bytes
  rw [rs_bytes hm] at h1
  have h2 := mayB_size hm
  exact decide_eq_true (by omega)
theorem bytes_app (a b : List Int) : (Utf.bytes (a ++ b)).length = (Utf.bytes a).length + (Utf.bytes b).length := by
  rw [← txt_size, ← txt_size, ← txt_size, ← txt_append, ByteArray.size_append]
theorem JnI.next {t : List Int} {k : Nat} {u : List Int} (h : JnI t k u) (G : Bool) (hl : Rw.en u k < u.length) : JnI t k (Rw.jn u k G) := by
  obtain ⟨h1, h2, h3⟩ := Rw.nx_le u k hl
  have hge := Rw.en_ge u k
  have hlen := Rw.jn_len u k G hl
  have hu : u = u.take (Rw.en u k) ++ ([10] ++ u.drop (Rw.en u k + 1)) := by
    have h10 := Rw.en_at u k hl
    have := Rw.drop_cons h10
    conv => lhs; rw [← List.take_append_drop (Rw.en u k) u, this]
    rfl
  have hsub : List.Sublist (u.drop (Rw.nx u k)) (u.drop (Rw.en u k + 1)) := by
    have : u.drop (Rw.nx u k) = (u.drop (Rw.en u k + 1)).drop (Rw.nx u k - (Rw.en u k + 1)) := by rw [List.drop_drop]; congr 1; omega
    rw [this]
    exact List.drop_sublist _ _
  refine ⟨by rw [hlen]; omega, ?_, ?_, ?_, ?_, ?_⟩
  · rw [← h.beg]
    exact Rw.beg_pre k fun i hi => Rw.jn_at u k G hl i (by omega)
  · intro x hx
    unfold Rw.jn at hx
    rcases List.mem_append.1 hx with hx | hx
    · rcases List.mem_append.1 hx with hx | hx
      · exact h.vld x (List.mem_of_mem_take hx)
      · cases G
        · simp at hx; subst hx; decide
        · simp at hx
    · exact h.vld x (List.mem_of_mem_drop hx)
  · intro hx
    unfold Rw.jn at hx
    rcases List.mem_append.1 hx with hx | hx
    · rcases List.mem_append.1 hx with hx | hx
      · exact h.zero (List.mem_of_mem_take hx)
      · cases G
        · simp at hx
        · simp at hx
    · exact h.zero (List.mem_of_mem_drop hx)
  · refine Nat.le_trans ?_ h.bytes
    have hb := bytes_sub hsub
    have e1 : (Utf.bytes u).length = (Utf.bytes (u.take (Rw.en u k))).length + ((Utf.bytes [10]).length + (Utf.bytes (u.drop (Rw.en u k + 1))).length) := by
      conv => lhs; rw [hu]
      rw [bytes_app, bytes_app]
    unfold Rw.jn
    rw [bytes_app, bytes_app, e1]
    have e2 : (Utf.bytes [10]).length = 1 := by decide
    have e3 : (Utf.bytes (if G then [] else [32])).length ≤ 1 := by cases G <;> decide
    omega
  · have := h.len
    rw [hlen]
    cases G <;> simp <;> omega
theorem runey_vld {t : List Int} (h : Vld t) : Runey t := fun r hr => by
  have := h r hr
  simp [Utf8.valid] at this
  omega
open Classical in
/-- Joined so many times: the runes, and where the last one was joined. -/
noncomputable def jst (t : List Int) (k : Nat) : Nat → Option (List Int × Nat)
  | 0 => some (t, Rw.en t k)
  | i + 1 => match jst t k i with
    | none => none
    | some (u, _) => if Rw.en u k = u.length then none else some (Rw.jn u k (decide (Rw.glu u k)), Rw.en u k)
theorem jst_stop {t : List Int} {k i : Nat} {u : List Int} {e : Nat} (h : jst t k i = some (u, e)) (hl : Rw.en u k = u.length) : jst t k (i + 1) = none := by
  simp only [jst, h]
  rw [if_pos hl]
open Classical in
theorem jst_step {t : List Int} {k i : Nat} {u : List Int} {e : Nat} {G : Bool} (h : jst t k i = some (u, e)) (hl : Rw.en u k < u.length) (hG : G = true ↔ Rw.glu u k) : jst t k (i + 1) = some (Rw.jn u k G, Rw.en u k) := by
  simp only [jst, h]
  rw [if_neg (by omega)]
  have : decide (Rw.glu u k) = G := by
    by_cases hg : Rw.glu u k
    · rw [decide_eq_true hg, hG.2 hg]
    · rw [decide_eq_false hg]
      cases G with
      | false => rfl
      | true => exact absurd (hG.1 rfl) hg
  rw [this]
theorem jst_none {t : List Int} {k i : Nat} (h : jst t k i = none) : ∀ n, i ≤ n → jst t k n = none := by
  intro n hn
  induction n with
  | zero => obtain rfl : i = 0 := by omega
            exact h
  | succ n ih =>
    by_cases he : i = n + 1
    · rw [← he]; exact h
    · simp only [jst, ih (by omega)]
/-- What J makes. -/
def TakeJ (s : ByteArray) (k n : Nat) (v : Value) : Prop :=
  (jst (rs s) k n = none → v = chgT 0 0 ⟨#[]⟩ 0 ⟨#[]⟩ 6) ∧ (∀ u e, jst (rs s) k n = some (u, e) → MadeV s u (Rw.rst u e : Nat) v)
end Go.Proofs.YtkeojjojilfklaaDoor
