/-
  CAUSAL ORDER, PLAIN: the reference's way, and that it is the same.
-/
import Derived.Test.YtpgicfbaefcbmaaDoorCaK
set_option linter.unusedVariables false
namespace Go.Proofs.YtpgicfbaefcbmaaDoor
namespace Cd

theorem rd_not_od {vs : List Int} {o : OpP} (h : rdB vs o = true) : odB vs o = false := by
  cases e : odB vs o with
  | false => rfl
  | true =>
    obtain ⟨x, hx, h1, _⟩ := rdB_iff.1 h
    obtain ⟨y, hy, h2⟩ := odB_iff.1 e
    rw [hx] at hy
    injection hy with hy
    omega
theorem od_up {vs : List Int} {q p : OpP} (h : odB vs p = true) : odB (up vs q) p = true := by
  obtain ⟨y, hy, h2⟩ := odB_iff.1 h
  rw [odB_iff]
  unfold up
  cases hx : vs[(q.st - 1).toNat]? with
  | none => exact ⟨y, hy, h2⟩
  | some x =>
    simp only
    by_cases e : (q.st - 1).toNat = (p.st - 1).toNat
    · rw [e] at hx ⊢
      rw [hx] at hy
      injection hy with hy
      refine ⟨x + 1, ?_, by omega⟩
      rw [List.getElem?_set_self (List.getElem?_eq_some_iff.1 hx).1]
    · exact ⟨y, by rw [List.getElem?_set_ne e]; exact hy, h2⟩
theorem od_self {vs : List Int} {q : OpP} (h : rdB vs q = true) : odB (up vs q) q = true := by
  obtain ⟨x, hx, h1, _⟩ := rdB_iff.1 h
  rw [odB_iff, up_of hx]
  exact ⟨x + 1, by rw [List.getElem?_set_self (List.getElem?_eq_some_iff.1 hx).1], by omega⟩
theorem find_filter {p f : OpP → Bool} (h : ∀ q, p q = true → f q = true) : ∀ l : List OpP, (l.filter f).find? p = l.find? p
  | [] => rfl
  | a :: l => by
    have ih := find_filter h l
    cases hf : f a with
    | true => rw [List.filter_cons_of_pos hf, List.find?_cons, List.find?_cons, ih]
    | false =>
      have hp : ¬ p a = true := fun e => by rw [h a e] at hf; cases hf
      rw [List.filter_cons_of_neg (by simp [hf]), List.find?_cons_of_neg hp, ih]
theorem find_first' {vs : List Int} : ∀ {l : List OpP} {k : Nat} {q : OpP}, l[k]? = some q → rdB vs q = true → (∀ (j : Nat) (p : OpP), j < k → l[j]? = some p → rdB vs p = false) → l.find? (rdB vs) = some q
  | [], k, q, h, _, _ => by simp at h
  | a :: l, 0, q, h, hr, _ => by
    simp only [List.getElem?_cons_zero, Option.some.injEq] at h
    subst h
    rw [List.find?_cons_of_pos hr]
  | a :: l, k + 1, q, h, hr, hf => by
    have ha := hf 0 a (by omega) rfl
    rw [List.find?_cons_of_neg (by simp [ha])]
    exact find_first' (by simpa using h) hr (fun j p hj hp => hf (j + 1) p (by omega) (by simpa using hp))
/-- One left out. -/
def rmv {α : Type} (l : List α) (k : Nat) : List α := l.take k ++ l.drop (k + 1)
theorem split_at {α : Type} {l : List α} {k : Nat} {q : α} (h : l[k]? = some q) : l = l.take k ++ q :: l.drop (k + 1) := by
  have hk := (List.getElem?_eq_some_iff.1 h).1
  have e : l[k] = q := by
    rw [List.getElem?_eq_getElem hk] at h
    injection h
  rw [← e, ← List.drop_eq_getElem_cons hk, List.take_append_drop]
theorem rmv_filter {f : OpP → Bool} {l : List OpP} {k : Nat} {q : OpP} (h : l[k]? = some q) (hq : f q = false) : (rmv l k).filter f = l.filter f := by
  conv => rhs; rw [split_at h]
  rw [rmv, List.filter_append, List.filter_append, List.filter_cons_of_neg (by simp [hq])]
theorem rmv_len {α : Type} {l : List α} {k : Nat} (h : k < l.length) : (rmv l k).length + 1 = l.length := by
  simp only [rmv, List.length_append, List.length_take, List.length_drop]
  omega
/-- How the reference stands. -/
structure Rf (al : List OpP) (vs0 : List Int) (T : List OpP) (vs : List Int) (l : List OpP) : Prop where
  stp : Stp al vs0 T vs
  flt : l.filter (fun q => !odB vs q) = al.filter (fun q => !odB vs q)
theorem Rf.start {al : List OpP} {vs0 : List Int} : Rf al vs0 [] vs0 al := ⟨.nil, rfl⟩
theorem Rf.old {al T l : List OpP} {vs0 vs : List Int} {k : Nat} {q : OpP} (h : Rf al vs0 T vs l) (hk : l[k]? = some q) (ho : odB vs q = true) : Rf al vs0 T vs (rmv l k) :=
  ⟨h.stp, by rw [rmv_filter hk (by simp [ho])]; exact h.flt⟩
theorem filter_all {f : OpP → Bool} {l : List OpP} (h : ∀ q ∈ l, f q = true) : l.filter f = l := List.filter_eq_self.2 h
theorem Rf.find {al T l : List OpP} {vs0 vs : List Int} (h : Rf al vs0 T vs l) (hno : ∀ q ∈ l, odB vs q = false) : al.find? (rdB vs) = l.find? (rdB vs) := by
  have e := find_filter (p := rdB vs) (f := fun q => !odB vs q) (fun q hq => by simp [rd_not_od hq])
  rw [← e al, ← h.flt, filter_all (fun q hq => by simp [hno q hq])]
theorem Rf.ready {al T l : List OpP} {vs0 vs : List Int} {k : Nat} {q : OpP} (h : Rf al vs0 T vs l) (hno : ∀ q ∈ l, odB vs q = false) (hk : l[k]? = some q) (hr : rdB vs q = true) (hf : ∀ (j : Nat) (p : OpP), j < k → l[j]? = some p → rdB vs p = false) : Rf al vs0 (T ++ [q]) (up vs q) (rmv l k) := by
  refine ⟨h.stp.snoc (by rw [h.find hno]; exact find_first' hk hr hf), ?_⟩
  rw [rmv_filter hk (by simp [od_self hr])]
  have e : ∀ m : List OpP, (m.filter (fun q => !odB vs q)).filter (fun p => !odB (up vs q) p) = m.filter (fun p => !odB (up vs q) p) := by
    intro m
    rw [List.filter_filter]
    congr 1
    funext p
    cases h1 : odB vs p with
    | true => simp [od_up (q := q) h1]
    | false => simp
  rw [← e l, ← e al, h.flt]
theorem Rf.done {vs0 vs : List Int} {w T l : List OpP} {o : OpP} (h : Rf (wt vs0 w o) vs0 T vs l) (hno : ∀ q ∈ l, odB vs q = false) (hnr : ∀ q ∈ l, rdB vs q = false) : Added vs0 w o T vs l :=
  ⟨h.stp, (by rw [h.find hno, List.find?_eq_none]; intro q hq e; rw [hnr q hq] at e; cases e), by rw [← h.flt, filter_all (fun q hq => by simp [hno q hq])]⟩
theorem stp_stl {al : List OpP} {vs0 vs : List Int} {t : List OpP} (h : Stp al vs0 t vs) : ∀ f r, stl f al vs = some r → ∃ f', stl f' al vs0 = some (t ++ r.1, r.2) := by
  induction h with
  | nil => exact fun f r h => ⟨f, by simpa using h⟩
  | snoc h1 h2 ih =>
    intro f r h
    obtain ⟨f', e⟩ := ih (f + 1) (_ :: r.1, r.2) (by rw [stl, h2]; simp only; rw [h]; rfl)
    exact ⟨f', by rw [e]; simp⟩
/-- Whatever is told so, is the same. -/
theorem Added.uniq {vs x x' : List Int} {w t t' z z' : List OpP} {o : OpP} (h : Added vs w o t x z) (h' : Added vs w o t' x' z') : t = t' ∧ x = x' ∧ z = z' := by
  obtain ⟨f, hf⟩ := stp_stl h.stp 1 ([], x) (by rw [stl, h.non])
  have hd := add_det (f := f) (r := (t ++ [], x, (wt vs w o).filter fun q => !odB x q)) (by unfold add; rw [hf]; rfl) h'
  rw [List.append_nil, ← h.wait] at hd
  injection hd with h1 h2
  injection h2 with h2 h3
  exact ⟨h1, h2, h3⟩
end Cd
end Go.Proofs.YtpgicfbaefcbmaaDoor
