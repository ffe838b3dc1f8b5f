/-
  TREES OF ROWS, plain: heights that differ by at most one; joined, split, linked, built.
-/
import Derived.Test.YtdgbaeliabaneaaDoorUtf
set_option linter.unusedVariables false
namespace Go.Proofs.YtdgbaeliabaneaaDoor

/-- A tree of rows. -/
inductive Tr where
  | nil : Tr
  | node : Tr → ByteArray → Tr → Tr
namespace Tr
def ht : Tr → Nat
  | nil => 0
  | node l _ r => 1 + max l.ht r.ht
/-- Its rows, from the first on. -/
def rows : Tr → List ByteArray
  | nil => []
  | node l s r => l.rows ++ s :: r.rows
/-- Its sides differ by at most one, everywhere. -/
def avl : Tr → Prop
  | nil => True
  | node l _ r => l.avl ∧ r.avl ∧ l.ht ≤ r.ht + 1 ∧ r.ht ≤ l.ht + 1
def left : Tr → Tr
  | nil => nil
  | node l _ _ => l
def right : Tr → Tr
  | nil => nil
  | node _ _ r => r
def balance (l : Tr) (s : ByteArray) (r : Tr) : Tr :=
  if r.ht + 1 < l.ht then
    match l with
    | nil => node l s r
    | node a x b =>
      if b.ht ≤ a.ht then node a x (node b s r)
      else match b with
        | nil => node l s r
        | node c y d => node (node a x c) y (node d s r)
  else if l.ht + 1 < r.ht then
    match r with
    | nil => node l s r
    | node a x b =>
      if a.ht ≤ b.ht then node (node l s a) x b
      else match a with
        | nil => node l s r
        | node c y d => node (node l s c) y (node d x b)
  else node l s r
def size : Tr → Nat
  | nil => 0
  | node l _ r => l.size + 1 + r.size
def row : Tr → ByteArray
  | nil => ⟨#[]⟩
  | node _ s _ => s
theorem left_size {t : Tr} (h : 0 < t.ht) : t.left.size < t.size := by
  cases t with
  | nil => simp [ht] at h
  | node l s r => show l.size < l.size + 1 + r.size; omega
theorem right_size {t : Tr} (h : 0 < t.ht) : t.right.size < t.size := by
  cases t with
  | nil => simp [ht] at h
  | node l s r => show r.size < l.size + 1 + r.size; omega
def join (l : Tr) (s : ByteArray) (r : Tr) : Tr :=
  if r.ht + 1 < l.ht then balance l.left l.row (join l.right s r)
  else if l.ht + 1 < r.ht then balance (join l s r.left) r.row r.right
  else node l s r
termination_by l.size + r.size
decreasing_by
  · have := right_size (t := l) (by omega); omega
  · have := left_size (t := r) (by omega); omega
theorem balance_rows (l : Tr) (s : ByteArray) (r : Tr) : (balance l s r).rows = l.rows ++ s :: r.rows := by
  unfold balance
  split
  · split
    · rfl
    · split
      · simp [rows]
      · split
        · rfl
        · simp [rows]
  · split
    · split
      · rfl
      · split
        · simp [rows]
        · split
          · rfl
          · simp [rows]
    · rfl
theorem rows_parts {t : Tr} (h : 0 < t.ht) : t.rows = t.left.rows ++ t.row :: t.right.rows := by
  cases t with
  | nil => simp [ht] at h
  | node l s r => rfl
theorem ht_parts {t : Tr} (h : 0 < t.ht) : t.ht = 1 + max t.left.ht t.right.ht := by
  cases t with
  | nil => simp [ht] at h
  | node l s r => rfl
theorem avl_parts {t : Tr} (h : 0 < t.ht) (ha : t.avl) : t.left.avl ∧ t.right.avl ∧ t.left.ht ≤ t.right.ht + 1 ∧ t.right.ht ≤ t.left.ht + 1 := by
  cases t with
  | nil => simp [ht] at h
  | node l s r => exact ha
theorem join_rows (l : Tr) (s : ByteArray) (r : Tr) : (join l s r).rows = l.rows ++ s :: r.rows := by
  induction l, r using join.induct with
  | case1 l r h ih => rw [join, if_pos h, balance_rows, ih, rows_parts (t := l) (by omega)]; simp
  | case2 l r h h2 ih => rw [join, if_neg h, if_pos h2, balance_rows, ih, rows_parts (t := r) (by omega)]; simp
  | case3 l r h h2 => rw [join, if_neg h, if_neg h2]; rfl
theorem balance_ok (l : Tr) (s : ByteArray) (r : Tr) (hl : l.avl) (hr : r.avl) (h1 : l.ht ≤ r.ht + 2) (h2 : r.ht ≤ l.ht + 2) :
    (balance l s r).avl ∧ max l.ht r.ht ≤ (balance l s r).ht ∧ (balance l s r).ht ≤ 1 + max l.ht r.ht ∧ (l.ht ≤ r.ht + 1 → r.ht ≤ l.ht + 1 → (balance l s r).ht = 1 + max l.ht r.ht) := by
  unfold balance
  split
  · rename_i h
    match l, hl with
    | nil, _ => simp [ht] at h
    | node a x b, hl =>
      obtain ⟨ha, hb, h3, h4⟩ := hl
      simp only [ht] at h h1 h2 ⊢
      split
      · rename_i h5
        simp only [ht, avl]
        refine ⟨⟨ha, ⟨hb, hr, ?_, ?_⟩, ?_, ?_⟩, ?_, ?_, ?_⟩ <;> first | omega | (intros; first | omega | trivial)
      · rename_i h5
        match b, hb with
        | nil, _ => simp [ht] at h5
        | node c y d, hb =>
          obtain ⟨hc, hd, h6, h7⟩ := hb
          simp only [ht] at h h1 h2 h3 h4 h5 ⊢
          simp only [ht, avl]
          refine ⟨⟨⟨ha, hc, ?_, ?_⟩, ⟨hd, hr, ?_, ?_⟩, ?_, ?_⟩, ?_, ?_, ?_⟩ <;> first | omega | (intros; first | omega | trivial)
  · split
    · rename_i h0 h
      match r, hr with
      | nil, _ => simp [ht] at h
      | node a x b, hr =>
        obtain ⟨ha, hb, h3, h4⟩ := hr
        simp only [ht] at h0 h h1 h2 ⊢
        split
        · rename_i h5
          simp only [ht, avl]
          refine ⟨⟨⟨hl, ha, ?_, ?_⟩, hb, ?_, ?_⟩, ?_, ?_, ?_⟩ <;> first | omega | (intros; first | omega | trivial)
        · rename_i h5
          match a, ha with
          | nil, _ => simp [ht] at h5
          | node c y d, ha =>
            obtain ⟨hc, hd, h6, h7⟩ := ha
            simp only [ht] at h0 h h1 h2 h3 h4 h5 ⊢
            simp only [ht, avl]
            refine ⟨⟨⟨hl, hc, ?_, ?_⟩, ⟨hd, hb, ?_, ?_⟩, ?_, ?_⟩, ?_, ?_, ?_⟩ <;> first | omega | (intros; first | omega | trivial)
    · rename_i h0 h
      simp only [ht, avl]
      refine ⟨⟨hl, hr, ?_, ?_⟩, ?_, ?_, ?_⟩ <;> first | omega | (intros; first | omega | trivial)
theorem join_ok (l : Tr) (s : ByteArray) (r : Tr) : l.avl → r.avl → (join l s r).avl ∧ max l.ht r.ht ≤ (join l s r).ht ∧ (join l s r).ht ≤ 1 + max l.ht r.ht := by
  induction l, r using join.induct with
  | case1 l r h ih =>
    intro hl hr
    obtain ⟨ha, hb, h3, h4⟩ := avl_parts (t := l) (by omega) hl
    have hh := ht_parts (t := l) (by omega)
    obtain ⟨i1, i2, i3⟩ := ih hb hr
    rw [join, if_pos h]
    obtain ⟨j1, j2, j3, j4⟩ := balance_ok l.left l.row (join l.right s r) ha i1 (by omega) (by omega)
    refine ⟨j1, by omega, ?_⟩
    by_cases h5 : (join l.right s r).ht ≤ l.left.ht + 1
    · have := j4 (by omega) h5; omega
    · omega
  | case2 l r h h2 ih =>
    intro hl hr
    obtain ⟨ha, hb, h3, h4⟩ := avl_parts (t := r) (by omega) hr
    have hh := ht_parts (t := r) (by omega)
    obtain ⟨i1, i2, i3⟩ := ih hl ha
    rw [join, if_neg h, if_pos h2]
    obtain ⟨j1, j2, j3, j4⟩ := balance_ok (join l s r.left) r.row r.right i1 hb (by omega) (by omega)
    refine ⟨j1, by omega, ?_⟩
    by_cases h5 : (join l s r.left).ht ≤ r.right.ht + 1
    · have := j4 h5 (by omega); omega
    · omega
  | case3 l r h h2 =>
    intro hl hr
    rw [join, if_neg h, if_neg h2]
    refine ⟨⟨hl, hr, by omega, by omega⟩, ?_, ?_⟩ <;> simp only [ht] <;> omega
/-- The first i rows, and the others. -/
def split : Tr → Nat → Tr × Tr
  | nil, _ => (nil, nil)
  | node l s r, i =>
    if i ≤ l.size then ((split l i).1, join (split l i).2 s r)
    else (join l s (split r (i - l.size - 1)).1, (split r (i - l.size - 1)).2)
theorem size_rows (t : Tr) : t.size = t.rows.length := by
  induction t with
  | nil => rfl
  | node l s r hl hr => simp only [size, rows, List.length_append, List.length_cons, hl, hr]; omega
theorem split_rows (t : Tr) : ∀ i, i ≤ t.size → (split t i).1.rows = t.rows.take i ∧ (split t i).2.rows = t.rows.drop i := by
  induction t with
  | nil => intro i _; simp [split, rows]
  | node l s r hl hr =>
    intro i hi
    have e := size_rows l
    simp only [size] at hi
    unfold split
    split
    · rename_i h
      obtain ⟨h1, h2⟩ := hl i h
      simp only [rows, join_rows]
      rw [h1, h2, List.take_append_of_le_length (by omega), List.drop_append_of_le_length (by omega)]
      exact ⟨rfl, rfl⟩
    · rename_i h
      obtain ⟨h1, h2⟩ := hr (i - l.size - 1) (by omega)
      simp only [rows, join_rows]
      rw [h1, h2]
      obtain ⟨k, hk⟩ : ∃ k, i = l.rows.length + (k + 1) := ⟨i - l.size - 1, by omega⟩
      subst hk
      rw [show l.rows.length + (k + 1) - l.size - 1 = k by omega]
      rw [List.take_length_add_append, List.drop_length_add_append]
      exact ⟨rfl, rfl⟩
theorem split_ok (t : Tr) : ∀ i, t.avl → (split t i).1.avl ∧ (split t i).2.avl := by
  induction t with
  | nil => intro i _; exact ⟨trivial, trivial⟩
  | node l s r hl hr =>
    intro i ha
    obtain ⟨h1, h2, _, _⟩ := ha
    unfold split
    split
    · exact ⟨(hl i h1).1, (join_ok _ _ _ (hl i h1).2 h2).1⟩
    · exact ⟨(join_ok _ _ _ h1 (hr _ h2).1).1, (hr _ h2).2⟩
end Tr
end Go.Proofs.YtdgbaeliabaneaaDoor
