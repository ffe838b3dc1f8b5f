/-
  LOWER: what a change of a text comes to, plain.
-/
import Derived.Test.YthkohjijppbliaaDoorLoE
set_option linter.unusedVariables false
namespace Go.Proofs.YthkohjijppbliaaDoor
open Go Go.RowKit

/-- Where the element ahead of an offset stands, and how many stand ahead of the next one that is not dead. -/
def spotF : List ElemS → Nat → Nat → Int → Int × Nat
  | [], _, i, a => (a, i)
  | e :: l, n, i, a => if e.d = true then spotF l n (i + 1) a else match n with
    | 0 => (a, i)
    | n + 1 => spotF l n (i + 1) (i : Int)
def spotL (L : List ElemS) (n : Nat) : Int × Nat := spotF L n 0 (-1)
theorem txL_cons (e : ElemS) (l : List ElemS) : txL (e :: l) = (if e.d = true then [] else [e.r]) ++ txL l := by
  unfold txL
  cases h : e.d <;> simp [h]
theorem txL_app (a b : List ElemS) : txL (a ++ b) = txL a ++ txL b := by simp [txL]
/-- All that is to be known of it. -/
theorem spotF_spec : ∀ (l : List ElemS) (n i : Nat) (a : Int) (pre : List ElemS) (p : Nat), pre.length = i → a + 1 = (p : Int) → p ≤ i → txL (pre.drop p) = [] → n ≤ (txL l).length →
    ∃ (p' low : Nat), spotF l n i a = ((p' : Int) - 1, low) ∧ p' ≤ low ∧ low ≤ (pre ++ l).length ∧ i ≤ low ∧ (txL ((pre ++ l).take p')) = txL pre ++ (txL l).take n ∧ txL ((pre ++ l).take low) = txL pre ++ (txL l).take n ∧ txL ((pre ++ l).drop low) = (txL l).drop n ∧ (p' = p ∨ ∃ e, (pre ++ l)[p' - 1]? = some e ∧ e.d = false ∧ 0 < p')
  | [], n, i, a, pre, p, hi, ha, hp, hd, hn => by
    have hn0 : n = 0 := by simp [txL] at hn; omega
    subst hn0
    refine ⟨p, i, by simp only [spotF]; rw [← ha]; simp, hp, by simp; omega, Nat.le_refl _, ?_, ?_, ?_, .inl rfl⟩
    · have hpp : txL pre = txL (pre.take p) := by
        conv => lhs; rw [← List.take_append_drop p pre]
        rw [txL_app, hd, List.append_nil]
      rw [List.append_nil, hpp]
      simp [txL]
    · rw [List.append_nil, List.take_of_length_le (by omega)]
      simp [txL]
    · rw [List.append_nil, List.drop_eq_nil_of_le (by omega)]
      simp [txL]
  | e :: l, n, i, a, pre, p, hi, ha, hp, hd, hn => by
    have e1 : pre ++ e :: l = (pre ++ [e]) ++ l := by simp
    have hpp : txL pre = txL (pre.take p) := by
      conv => lhs; rw [← List.take_append_drop p pre]
      rw [txL_app, hd, List.append_nil]
    unfold spotF
    by_cases hed : e.d = true
    · rw [if_pos hed]
      rw [txL_cons, if_pos hed, List.nil_append] at hn
      obtain ⟨p', low, h1, h2, h3, h4, h5, h6, h7, h8⟩ := spotF_spec l n (i + 1) a (pre ++ [e]) p (by simp [hi]) ha (by omega) (by
        rw [List.drop_append_of_le_length (by omega), txL_app, hd, txL_cons, if_pos hed]; rfl) hn
      have e2 : txL (pre ++ [e]) = txL pre := by rw [txL_app, txL_cons, if_pos hed]; simp [txL]
      rw [e2] at h5 h6
      rw [e1]
      refine ⟨p', low, h1, h2, h3, by omega, ?_, ?_, ?_, h8⟩
      · rw [h5, txL_cons, if_pos hed, List.nil_append]
      · rw [h6, txL_cons, if_pos hed, List.nil_append]
      · rw [h7, txL_cons, if_pos hed, List.nil_append]
    · rw [if_neg hed]
      match n with
      | 0 =>
        refine ⟨p, i, by rw [← ha]; simp, hp, by simp; omega, Nat.le_refl _, ?_, ?_, ?_, .inl rfl⟩
        · rw [List.take_append_of_le_length (by omega), List.take_zero, List.append_nil]; exact hpp.symm
        · rw [List.take_append_of_le_length (by omega), List.take_of_length_le (by omega), List.take_zero, List.append_nil]
        · rw [← hi, List.drop_left]; rfl
      | n + 1 =>
        rw [txL_cons, if_neg hed] at hn
        simp only [List.length_append, List.length_cons, List.length_nil] at hn
        obtain ⟨p', low, h1, h2, h3, h4, h5, h6, h7, h8⟩ := spotF_spec l n (i + 1) (i : Int) (pre ++ [e]) (i + 1) (by simp [hi]) rfl (Nat.le_refl _) (by
          rw [List.drop_eq_nil_of_le (by simp [hi])]; rfl) (by omega)
        have e2 : txL (pre ++ [e]) = txL pre ++ [e.r] := by rw [txL_app, txL_cons, if_neg hed]; simp [txL]
        rw [e2] at h5 h6
        rw [e1]
        refine ⟨p', low, h1, h2, h3, by omega, ?_, ?_, ?_, ?_⟩
        · rw [h5, txL_cons, if_neg hed]; simp
        · rw [h6, txL_cons, if_neg hed]; simp
        · rw [h7, txL_cons, if_neg hed]; simp
        · rcases h8 with h8 | h8
          · right
            refine ⟨e, ?_, by simpa using hed, by omega⟩
            rw [h8, Nat.add_sub_cancel, List.append_assoc, List.getElem?_append_right (by omega), hi, Nat.sub_self]
            rfl
          · exact .inr h8
theorem spotL_spec (L : List ElemS) (n : Nat) (hn : n ≤ (txL L).length) : ∃ (p low : Nat), spotL L n = ((p : Int) - 1, low) ∧ p ≤ low ∧ low ≤ L.length ∧ txL (L.take p) = (txL L).take n ∧ txL (L.take low) = (txL L).take n ∧ txL (L.drop low) = (txL L).drop n ∧ (p = 0 ∨ ∃ e, L[p - 1]? = some e ∧ e.d = false ∧ 0 < p) := by
  obtain ⟨p', low, h1, h2, h3, h4, h5, h6, h7, h8⟩ := spotF_spec L n 0 (-1) [] 0 rfl rfl (Nat.le_refl _) rfl hn
  exact ⟨p', low, h1, h2, h3, h5, h6, h7, h8⟩
/-- The first so many that are not dead, and all with these dead. -/
def dels : List ElemS → Nat → List ElemS
  | [], _ => []
  | e :: l, n => if e.d = true then dels l n else match n with
    | 0 => []
    | n + 1 => e :: dels l n
def kill : List ElemS → Nat → List ElemS
  | [], _ => []
  | e :: l, n => if e.d = true then e :: kill l n else match n with
    | 0 => e :: l
    | n + 1 => { e with d := true } :: kill l n
theorem dels_zero : ∀ l, dels l 0 = []
  | [] => rfl
  | e :: l => by
    unfold dels
    by_cases h : e.d = true
    · rw [if_pos h]; exact dels_zero l
    · rw [if_neg h]
theorem kill_zero : ∀ l, kill l 0 = l
  | [] => rfl
  | e :: l => by
    unfold kill
    by_cases h : e.d = true
    · rw [if_pos h, kill_zero l]
    · rw [if_neg h]
theorem dels_len : ∀ (l : List ElemS) (n : Nat), n ≤ (txL l).length → (dels l n).length = n
  | [], n, h => by simp [txL] at h; subst h; rfl
  | e :: l, n, h => by
    rw [txL_cons] at h
    unfold dels
    by_cases hd : e.d = true
    · rw [if_pos hd] at h ⊢
      exact dels_len l n (by simpa using h)
    · rw [if_neg hd] at h ⊢
      match n with
      | 0 => rfl
      | n + 1 => simp at h; simp [dels_len l n (by omega)]
theorem dels_mem : ∀ (l : List ElemS) (n : Nat) (e : ElemS), e ∈ dels l n → e ∈ l ∧ e.d = false
  | [], n, e, h => by cases h
  | q :: l, n, e, h => by
    unfold dels at h
    by_cases hd : q.d = true
    · rw [if_pos hd] at h
      obtain ⟨h1, h2⟩ := dels_mem l n e h
      exact ⟨List.mem_cons_of_mem _ h1, h2⟩
    · rw [if_neg hd] at h
      match n, h with
      | n + 1, h =>
        rcases List.mem_cons.1 h with h | h
        · subst h; exact ⟨List.mem_cons_self, by simpa using hd⟩
        · obtain ⟨h1, h2⟩ := dels_mem l n e h
          exact ⟨List.mem_cons_of_mem _ h1, h2⟩
theorem kill_len : ∀ (l : List ElemS) (n : Nat), (kill l n).length = l.length
  | [], n => rfl
  | e :: l, n => by
    unfold kill
    by_cases hd : e.d = true
    · rw [if_pos hd]; simp [kill_len l n]
    · rw [if_neg hd]
      match n with
      | 0 => rfl
      | n + 1 => simp [kill_len l n]
theorem kill_text : ∀ (l : List ElemS) (n : Nat), txL (kill l n) = (txL l).drop n
  | [], n => by simp [kill, txL]
  | e :: l, n => by
    unfold kill
    by_cases hd : e.d = true
    · rw [if_pos hd, txL_cons, txL_cons, if_pos hd, kill_text l n]; rfl
    · rw [if_neg hd]
      match n with
      | 0 => rfl
      | n + 1 =>
        rw [txL_cons, if_pos rfl, txL_cons, if_neg hd, kill_text l n]
        simp
/-- All, with those of some IDs dead. -/
def killD (L D : List ElemS) : List ElemS := L.map fun e => if D.any (fun q => decide (sameId e q)) = true then { e with d := true } else e
theorem killD_nil (L : List ElemS) : killD L [] = L := by simp [killD]
theorem killD_len (L D : List ElemS) : (killD L D).length = L.length := by simp [killD]
theorem killD_get {L D : List ElemS} {k : Nat} {e : ElemS} (h : L[k]? = some e) : (killD L D)[k]? = some (if D.any (fun q => decide (sameId e q)) = true then { e with d := true } else e) := by
  unfold killD
  rw [List.getElem?_map, h]
  rfl
theorem sameId_refl (e : ElemS) : sameId e e := ⟨rfl, rfl⟩
theorem killD_snoc {L D : List ElemS} (hp : L.Pairwise (fun a b => ¬ sameId a b)) {k : Nat} {e : ElemS} (h : L[k]? = some e) : (killD L D).set k { e with d := true } = killD L (D ++ [e]) := by
  apply List.ext_getElem?
  intro j
  by_cases hj : j = k
  · subst hj
    have hl : j < (killD L D).length := by rw [killD_len]; exact (List.getElem?_eq_some_iff.1 h).1
    rw [List.getElem?_set_self hl, killD_get h, if_pos (by simp [sameId_refl])]
  · rw [List.getElem?_set_ne (by omega)]
    cases hx : L[j]? with
    | none =>
      have h1 := List.getElem?_eq_none_iff.1 hx
      rw [List.getElem?_eq_none (by rw [killD_len]; exact h1), List.getElem?_eq_none (by rw [killD_len]; exact h1)]
    | some q =>
      rw [killD_get hx, killD_get hx]
      have hne : ¬ sameId q e := by
        have hjl := (List.getElem?_eq_some_iff.1 hx)
        have hkl := (List.getElem?_eq_some_iff.1 h)
        obtain ⟨hj1, hj2⟩ := hjl
        obtain ⟨hk1, hk2⟩ := hkl
        rw [List.pairwise_iff_getElem] at hp
        rcases Nat.lt_or_gt_of_ne hj with hlt | hlt
        · have := hp j k hj1 hk1 hlt
          rw [hj2, hk2] at this
          exact this
        · have := hp k j hk1 hj1 hlt
          rw [hj2, hk2] at this
          exact fun ⟨a, b⟩ => this ⟨a.symm, b.symm⟩
      congr 1
      rw [List.any_append]
      simp [hne]
/-- Killed one after the other: the same. -/
theorem kill_killD : ∀ (l : List ElemS) (n : Nat) (pre : List ElemS), (pre ++ l).Pairwise (fun a b => ¬ sameId a b) → pre ++ kill l n = killD (pre ++ l) (dels l n)
  | [], n, pre, hp => by simp [kill, dels, killD_nil]
  | e :: l, n, pre, hp => by
    have hp' : ((pre ++ [e]) ++ l).Pairwise (fun a b => ¬ sameId a b) := by simpa using hp
    unfold kill dels
    by_cases hd : e.d = true
    · rw [if_pos hd, if_pos hd]
      have ih := kill_killD l n (pre ++ [e]) hp'
      simpa using ih
    · rw [if_neg hd, if_neg hd]
      match n with
      | 0 => simp [killD_nil]
      | n + 1 =>
        have ih := kill_killD l n (pre ++ [e]) hp'
        have hk : (pre ++ e :: l)[pre.length]? = some e := by simp
        have hs : killD (pre ++ e :: l) (e :: dels l n) = (killD (pre ++ e :: l) (dels l n)).set pre.length { e with d := true } := by
          rw [killD_snoc hp hk]
          unfold killD
          apply List.map_congr_left
          intro q _
          rw [List.any_append, List.any_cons, Bool.or_comm]
          simp
        have e1 : pre ++ e :: l = (pre ++ [e]) ++ l := by simp
        show pre ++ ({ e with d := true } :: kill l n) = killD (pre ++ e :: l) (e :: dels l n)
        rw [hs, e1, ← ih]
        rw [List.append_assoc, List.set_append_right _ _ (Nat.le_refl _), Nat.sub_self]
        rfl
/-- The vector, a site's own number so many higher. -/
def seenAt (seen : List Int) (k j : Nat) : List Int := seen.set k (seen.getD k 0 + (j : Int))
/-- One deletion, one insertion. -/
def delOp (st : Int) (seen : List Int) (j : Nat) (e : ElemS) : Cd.OpP := ⟨2, e.t, e.si, 0, 0, 0, st, seen.getD (st - 1).toNat 0 + (j : Int) + 1, seenAt seen (st - 1).toNat j⟩
def insOp (st clk : Int) (seen : List Int) (t0 s0 : Int) (m j : Nat) (r : Int) : Cd.OpP := ⟨1, clk + (j : Int) + 1, st, if j = 0 then t0 else clk + (j : Int), if j = 0 then s0 else st, r, st, seen.getD (st - 1).toNat 0 + ((m + j : Nat) : Int) + 1, seenAt seen (st - 1).toNat (m + j)⟩
def delOps (st : Int) (seen : List Int) (D : List ElemS) : List Cd.OpP := D.zipIdx.map fun p => delOp st seen p.2 p.1
def insOps (st clk : Int) (seen : List Int) (t0 s0 : Int) (m : Nat) (R : List Int) : List Cd.OpP := R.zipIdx.map fun p => insOp st clk seen t0 s0 m p.2 p.1
/-- The elements that come. -/
def comes (st clk : Int) (R : List Int) : List ElemS := R.zipIdx.map fun p => ⟨clk + (p.2 : Int) + 1, st, p.1, false⟩
theorem delOps_snoc (st : Int) (seen : List Int) (D : List ElemS) (e : ElemS) : delOps st seen (D ++ [e]) = delOps st seen D ++ [delOp st seen D.length e] := by
  simp [delOps, List.zipIdx_append]
theorem insOps_take {st clk : Int} {seen : List Int} {t0 s0 : Int} {m : Nat} {R : List Int} {j : Nat} {r : Int} (h : R[j]? = some r) : insOps st clk seen t0 s0 m (R.take (j + 1)) = insOps st clk seen t0 s0 m (R.take j) ++ [insOp st clk seen t0 s0 m j r] := by
  have hl := (List.getElem?_eq_some_iff.1 h).1
  rw [List.take_add_one, h]
  simp [insOps, List.zipIdx_append, Nat.min_eq_left (Nat.le_of_lt hl)]
theorem comes_take {st clk : Int} {R : List Int} {j : Nat} {r : Int} (h : R[j]? = some r) : comes st clk (R.take (j + 1)) = comes st clk (R.take j) ++ [⟨clk + (j : Int) + 1, st, r, false⟩] := by
  have hl := (List.getElem?_eq_some_iff.1 h).1
  rw [List.take_add_one, h]
  simp [comes, List.zipIdx_append, Nat.min_eq_left (Nat.le_of_lt hl)]
theorem comes_len (st clk : Int) (R : List Int) : (comes st clk R).length = R.length := by simp [comes]
theorem comes_text (st clk : Int) (R : List Int) : txL (comes st clk R) = R := by
  unfold txL comes
  rw [List.filter_map, List.filter_eq_self.2 (by intro x hx; rfl), List.map_map]
  show (List.zipIdx R).map (fun p => p.1) = R
  simp
theorem comes_mem {st clk : Int} {R : List Int} {e : ElemS} (h : e ∈ comes st clk R) : ∃ (j : Nat) (r : Int), R[j]? = some r ∧ e = ⟨clk + (j : Int) + 1, st, r, false⟩ := by
  obtain ⟨p, hp, rfl⟩ := List.mem_map.1 h
  obtain ⟨r, j⟩ := p
  have := List.mem_zipIdx_iff_getElem?.1 hp
  exact ⟨j, r, by simpa using this, rfl⟩
theorem insOps_len (st clk : Int) (seen : List Int) (t0 s0 : Int) (m : Nat) (R : List Int) : (insOps st clk seen t0 s0 m R).length = R.length := by simp [insOps]
theorem delOps_len (st : Int) (seen : List Int) (D : List ElemS) : (delOps st seen D).length = D.length := by simp [delOps]
theorem seenAt_len (seen : List Int) (k j : Nat) : (seenAt seen k j).length = seen.length := by simp [seenAt]
theorem seenAt_zero (seen : List Int) (k : Nat) : seenAt seen k 0 = seen := by
  unfold seenAt
  rw [Int.natCast_zero, Int.add_zero]
  by_cases h : k < seen.length
  · rw [List.getD_eq_getElem?_getD, List.getElem?_eq_getElem h, Option.getD_some, List.set_getElem_self]
  · rw [List.set_eq_of_length_le (by omega)]
theorem seenAt_step (seen : List Int) (k j : Nat) (hk : k < seen.length) : (seenAt seen k j).set k ((seenAt seen k j).getD k 0 + 1) = seenAt seen k (j + 1) := by
  unfold seenAt
  rw [List.set_set, List.getD_eq_getElem?_getD (l := seen.set _ _), List.getElem?_set_self hk, Option.getD_some]
  congr 1
  omega
theorem seenAt_get (seen : List Int) (k j : Nat) (hk : k < seen.length) : (seenAt seen k j)[k]? = some (seen.getD k 0 + (j : Int)) := by
  unfold seenAt
  rw [List.getElem?_set_self hk]
end Go.Proofs.YthkohjijppbliaaDoor
