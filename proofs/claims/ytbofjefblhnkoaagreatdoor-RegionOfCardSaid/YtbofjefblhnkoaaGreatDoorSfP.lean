/-
  ROWS SHIFTED, as lists of runes and as bytes; what the library's Split and Join make of rows.
-/
import Derived.Test.YtbofjefblhnkoaaGreatDoorOpP
import Derived.Lib.Split
import Derived.Lib.SplitLaws
import Derived.Lib.CountLaws
import Derived.Lib.IndexBytes
import Derived.Lib.IndexLaws
import Derived.Lib.Join
set_option linter.unusedVariables false
namespace Go.Proofs.YtbofjefblhnkoaaGreatDoor
open Go Go.RowKit

theorem enc_ten {n : Int} (hv : Utf8.valid n = true) (h0 : n ≠ 10) : ∀ b ∈ Utf.enc n, b ≠ 10 := by
  have hn := Utf.int_valid hv
  obtain ⟨c, rfl⟩ := Int.eq_ofNat_of_zero_le (show 0 ≤ n by omega)
  rw [Utf.enc_of hv]
  intro b hb e
  subst e
  have hz : ∀ m, m < 256 → (10 : UInt8) = UInt8.ofNat m → m = 10 := fun m hm h => by
    have := congrArg UInt8.toNat h
    rw [Utf.toNat_ofNat hm] at this
    simpa using this.symm
  by_cases h1 : c < 128
  · rw [if_pos h1] at hb
    simp only [List.mem_singleton] at hb
    have := hz c (by omega) hb
    omega
  rw [if_neg h1] at hb
  by_cases h2 : c < 2048
  · rw [if_pos h2] at hb
    simp only [List.mem_cons, List.not_mem_nil, or_false] at hb
    rcases hb with hb | hb
    · have := hz _ (by omega) hb; omega
    · have := hz _ (by omega) hb; omega
  rw [if_neg h2] at hb
  by_cases h3 : c < 65536
  · rw [if_pos h3] at hb
    simp only [List.mem_cons, List.not_mem_nil, or_false] at hb
    rcases hb with hb | hb | hb
    · have := hz _ (by omega) hb; omega
    · have := hz _ (by omega) hb; omega
    · have := hz _ (by omega) hb; omega
  rw [if_neg h3] at hb
  simp only [List.mem_cons, List.not_mem_nil, or_false] at hb
  rcases hb with hb | hb | hb | hb
  · have := hz _ (by omega) hb; omega
  · have := hz _ (by omega) hb; omega
  · have := hz _ (by omega) hb; omega
  · have := hz _ (by omega) hb; omega
theorem bytes_ten {t : List Int} (hv : Vld t) (h0 : (10 : Int) ∉ t) : ∀ b ∈ Utf.bytes t, b ≠ 10 := by
  induction t with
  | nil => intro b hb; cases hb
  | cons n t ih =>
    intro b hb
    have hb' : b ∈ Utf.enc n ++ Utf.bytes t := hb
    rcases List.mem_append.1 hb' with h | h
    · exact enc_ten (hv n (by simp)) (fun e => h0 (by simp [e])) b h
    · exact ih (fun r hr => hv r (by simp [hr])) (fun h => h0 (by simp [h])) b h
theorem ub_app (a b : List Int) : Utf.bytes (a ++ b) = Utf.bytes a ++ Utf.bytes b := by
  induction a with
  | nil => rfl
  | cons c a ih => show Utf.enc c ++ Utf.bytes (a ++ b) = (Utf.enc c ++ Utf.bytes a) ++ Utf.bytes b; rw [ih, List.append_assoc]

/-- What stands between newlines; rows, joined. -/
def rowsOf : List Int → List (List Int)
  | [] => [[]]
  | c :: l => if c = 10 then [] :: rowsOf l else match rowsOf l with
    | [] => [[c]]
    | r :: rs => (c :: r) :: rs
def joinR : List (List Int) → List Int
  | [] => []
  | r :: rs => r ++ (rs.map (10 :: ·)).flatten
theorem rowsOf_row : ∀ {a : List Int}, (10 : Int) ∉ a → rowsOf a = [a]
  | [], _ => rfl
  | c :: a, h => by
    have hc : c ≠ 10 := fun e => h (by simp [e])
    have ih := rowsOf_row (a := a) (fun e => h (by simp [e]))
    simp only [rowsOf]
    rw [if_neg hc, ih]
theorem rowsOf_cut : ∀ {a : List Int} (l : List Int), (10 : Int) ∉ a → rowsOf (a ++ 10 :: l) = a :: rowsOf l
  | [], l, _ => by simp [rowsOf]
  | c :: a, l, h => by
    have hc : c ≠ 10 := fun e => h (by simp [e])
    have ih := rowsOf_cut (a := a) l (fun e => h (by simp [e]))
    simp only [List.cons_append, rowsOf]
    rw [if_neg hc, ih]
theorem ten_split : ∀ u : List Int, (10 : Int) ∉ u ∨ ∃ a l, u = a ++ 10 :: l ∧ (10 : Int) ∉ a
  | [] => .inl (by simp)
  | c :: u => by
    by_cases hc : c = 10
    · exact .inr ⟨[], u, by rw [hc]; rfl, by simp⟩
    · rcases ten_split u with h | ⟨a, l, h1, h2⟩
      · exact .inl (by simp [h]; exact fun e => hc e.symm)
      · exact .inr ⟨c :: a, l, by rw [h1]; rfl, by simp [h2]; exact fun e => hc e.symm⟩
theorem joinR_cons (r : List Int) (rs : List (List Int)) (h : rs ≠ []) : joinR (r :: rs) = r ++ 10 :: joinR rs := by
  cases rs with
  | nil => exact absurd rfl h
  | cons q rs => simp [joinR]
theorem rowsOf_ne (u : List Int) : rowsOf u ≠ [] := by
  rcases ten_split u with h | ⟨a, l, rfl, h⟩
  · rw [rowsOf_row h]; simp
  · rw [rowsOf_cut l h]; simp
theorem rowsOf_all (n : Nat) : ∀ (u : List Int), u.length ≤ n → joinR (rowsOf u) = u ∧ (rowsOf u).length ≤ u.length + 1 := by
  induction n with
  | zero =>
    intro u hu
    obtain rfl := List.eq_nil_of_length_eq_zero (Nat.le_zero.1 hu)
    simp [rowsOf, joinR]
  | succ n ih =>
    intro u hn
    rcases ten_split u with h | ⟨a, l, rfl, h⟩
    · rw [rowsOf_row h]; simp [joinR]
    · rw [List.length_append, List.length_cons] at hn
      have ih := ih l (by omega)
      rw [rowsOf_cut l h, joinR_cons _ _ (rowsOf_ne l), ih.1]
      refine ⟨rfl, ?_⟩
      rw [List.length_cons, List.length_append, List.length_cons]
      omega
theorem mem_rows {u : List Int} {r : List Int} (h : r ∈ rowsOf u) : ∀ x ∈ r, x ∈ u := by
  have : ∀ (n : Nat) (u : List Int), u.length ≤ n → ∀ r ∈ rowsOf u, ∀ x ∈ r, x ∈ u := by
    intro n
    induction n with
    | zero =>
      intro u hu r hr
      obtain rfl := List.eq_nil_of_length_eq_zero (Nat.le_zero.1 hu)
      simp [rowsOf] at hr
      subst hr
      intro x hx; cases hx
    | succ n ih =>
      intro u hu r hr x hx
      rcases ten_split u with h | ⟨a, l, rfl, h⟩
      · rw [rowsOf_row h, List.mem_singleton] at hr
        subst hr; exact hx
      · rw [List.length_append, List.length_cons] at hu
        rw [rowsOf_cut l h] at hr
        rcases List.mem_cons.1 hr with hr | hr
        · subst hr; simp [hx]
        · have := ih l (by omega) r hr x hx
          simp [this]
  exact this u.length u (Nat.le_refl _) r h

/-! ### The library's -/
theorem ib_none {l : List UInt8} {c : UInt8} (h : ∀ b ∈ l, b ≠ c) : Lib.index l [c] = -1 := by
  rw [Lib.index_one]
  have hge := Lib.indexByte_ge l c
  by_cases h1 : Lib.indexByte l c = -1
  · exact h1
  · obtain ⟨o, ho⟩ := Int.eq_ofNat_of_zero_le (show 0 ≤ Lib.indexByte l c by omega)
    have := (Lib.indexByte_some ho).1
    exact absurd rfl (h c (List.mem_of_getElem? this))
theorem ib_at {a l : List UInt8} {c : UInt8} (h : ∀ b ∈ a, b ≠ c) : Lib.index (a ++ c :: l) [c] = (a.length : Int) := by
  rw [Lib.index_one]
  have hge := Lib.indexByte_ge (a ++ c :: l) c
  have hat : (a ++ c :: l)[a.length]? = some c := by simp
  by_cases h1 : Lib.indexByte (a ++ c :: l) c = -1
  · exact absurd hat (Lib.indexByte_none h1 _)
  · obtain ⟨o, ho⟩ := Int.eq_ofNat_of_zero_le (show 0 ≤ Lib.indexByte (a ++ c :: l) c by omega)
    obtain ⟨h2, h3⟩ := Lib.indexByte_some ho
    rw [ho]
    by_cases h4 : o < a.length
    · rw [List.getElem?_append_left h4] at h2
      exact absurd rfl (h c (List.mem_of_getElem? h2))
    · by_cases h5 : o = a.length
      · rw [h5]
      · exact absurd hat (h3 _ (by omega))
theorem splitK_rows (n : Nat) : ∀ (u : List Int), u.length ≤ n → Vld u → Lib.splitK [10] 0 (Lib.count (Utf.bytes u) [10]) (Utf.bytes u) = (rowsOf u).map Utf.bytes := by
  induction n with
  | zero =>
    intro u hu hv
    obtain rfl := List.eq_nil_of_length_eq_zero (Nat.le_zero.1 hu)
    have hi := ib_none (l := Utf.bytes []) (c := 10) (fun b hb => by cases hb)
    rw [Lib.count_miss hi]
    rfl
  | succ n ih =>
    intro u hn hv
    rcases ten_split u with h | ⟨a, l, rfl, h⟩
    · have hi := ib_none (bytes_ten hv h)
      rw [Lib.count_miss hi, rowsOf_row h]
      rfl
    · rw [List.length_append, List.length_cons] at hn
      have hva : Vld a := fun r hr => hv r (by simp [hr])
      have hvl : Vld l := fun r hr => hv r (by simp [hr])
      have ih := ih l (by omega) hvl
      have hb : Utf.bytes (a ++ 10 :: l) = Utf.bytes a ++ 10 :: Utf.bytes l := by
        rw [ub_app]
        show _ ++ (Utf.enc 10 ++ Utf.bytes l) = _
        rw [show Utf.enc 10 = [10] by decide]
        rfl
      have hi := ib_at (l := Utf.bytes l) (bytes_ten hva h)
      have hd : (Utf.bytes a ++ (10 : UInt8) :: Utf.bytes l).drop ((Utf.bytes a).length + 1) = Utf.bytes l := by
        rw [List.drop_append]
        simp
      rw [hb, Lib.count_hit (by simp) hi, rowsOf_cut l h]
      rw [show ([10] : List UInt8).length = 1 from rfl, hd, Nat.add_comm 1]
      unfold Lib.splitK
      have hm : ¬ (Lib.index (Utf.bytes a ++ (10 : UInt8) :: Utf.bytes l) [10] == -1) = true := fun e => by have := beq_iff_eq.1 e; omega
      rw [if_neg hm, hi, show ((Utf.bytes a).length : Int).toNat = (Utf.bytes a).length from Int.toNat_natCast _, show ([10] : List UInt8).length = 1 from rfl, hd, ih]
      simp
/-- The byte that ends a row. -/
def nlB : ByteArray := ⟨#[10]⟩
theorem split_rows {u : List Int} (hv : Vld u) : Lib.splitB nlB 0 (Lib.countB (runesBytes u) nlB) (runesBytes u) = (rowsOf u).map runesBytes := by
  have h1 := Lib.splitB_data nlB 0 (Lib.countB (runesBytes u) nlB) (runesBytes u)
  have h2 := splitK_rows u.length u (Nat.le_refl _) hv
  have e1 : nlB.data.toList = [10] := rfl
  have e2 : (runesBytes u).data.toList = Utf.bytes u := txt_list u
  unfold Lib.countB at h1 ⊢
  rw [e1, e2] at h1 ⊢
  rw [h2] at h1
  have h3 : ((rowsOf u).map runesBytes).map (·.data.toList) = (rowsOf u).map Utf.bytes := by
    rw [List.map_map]
    exact List.map_congr_left fun r _ => txt_list r
  rw [← h3] at h1
  exact (List.map_inj_right fun x y h => ba_ext h).1 h1
theorem split_len {u : List Int} (hv : Vld u) : (rowsOf u).length = Lib.countB (runesBytes u) nlB + 1 := by
  have := Lib.splitB_all nlB (by decide) 0 _ (runesBytes u) rfl
  rw [split_rows hv, List.length_map] at this
  exact this
theorem join_rows (rs : List (List Int)) : (⟨(Lib.join ((rs.map runesBytes).map (·.data.toList)) nlB.data.toList).toArray⟩ : ByteArray) = runesBytes (joinR rs) := by
  apply ba_ext
  rw [txt_list]
  show (Lib.join _ [10]) = _
  have h3 : (rs.map runesBytes).map (·.data.toList) = rs.map Utf.bytes := by
    rw [List.map_map]
    exact List.map_congr_left fun r _ => txt_list r
  rw [h3]
  cases rs with
  | nil => rfl
  | cons r rs =>
    rw [List.map_cons, Lib.join_cons]
    show _ = Utf.bytes (r ++ (rs.map (10 :: ·)).flatten)
    rw [ub_app]
    congr 1
    induction rs with
    | nil => rfl
    | cons q rs ih =>
      show ([10] ++ Utf.bytes q) ++ Lib.joinTail [10] (rs.map Utf.bytes) = Utf.bytes ((10 :: q) ++ (rs.map (10 :: ·)).flatten)
      rw [ub_app, ih (by rw [List.map_map]; exact List.map_congr_left fun r _ => txt_list r)]
      rfl

/-! ### Rows shifted -/
def str1 : List Int → List Int
  | [] => []
  | c :: l => if Rw.cls c = 0 then l else c :: l
def stN : Nat → List Int → List Int
  | 0, l => l
  | n + 1, l => stN n (str1 l)
theorem stN_nil : ∀ n, stN n [] = []
  | 0 => rfl
  | n + 1 => stN_nil n
theorem stN_stop {c : Int} {l : List Int} (h : Rw.cls c ≠ 0) : ∀ n, stN n (c :: l) = c :: l
  | 0 => rfl
  | n + 1 => by simp only [stN, str1]; rw [if_neg h]; exact stN_stop h n
theorem str1_sub (l : List Int) : List.Sublist (str1 l) l := by
  cases l with
  | nil => exact List.Sublist.refl _
  | cons c l =>
    simp only [str1]
    split
    · exact List.sublist_cons_self _ _
    · exact List.Sublist.refl _
theorem stN_sub : ∀ n (l : List Int), List.Sublist (stN n l) l
  | 0, l => List.Sublist.refl _
  | n + 1, l => (stN_sub n (str1 l)).trans (str1_sub l)
def shR (key : Int) (r : List Int) : List Int := if key = 60 then stN 2 r else if r = [] then [] else 32 :: 32 :: r
theorem shR_len (key : Int) (r : List Int) : (shR key r).length ≤ r.length + 2 := by
  unfold shR
  split
  · have := (stN_sub 2 r).length_le; omega
  · split <;> simp
theorem shR_mem {key : Int} {r : List Int} {x : Int} (h : x ∈ shR key r) : x = 32 ∨ x ∈ r := by
  unfold shR at h
  split at h
  · exact .inr ((stN_sub 2 r).subset h)
  · split at h
    · cases h
    · simp at h
      rcases h with h | h
      · exact .inl h
      · exact .inr h
def shF (t : List Int) (E : Nat) (key : Int) (at' : Nat) : List Int := joinR ((rowsOf ((t.take E).drop at')).map (shR key)) ++ t.drop E
def shZ (t : List Int) (lo hi : Nat) (key : Int) : List Int := t.take (Rw.beg t lo) ++ shF t (Rw.en t hi) key (Rw.beg t lo)
theorem joinR_len (f : List Int → List Int) (hf : ∀ r, (f r).length ≤ r.length + 2) : ∀ rs : List (List Int), (joinR (rs.map f)).length ≤ (joinR rs).length + 2 * rs.length
  | [] => by simp [joinR]
  | r :: rs => by
    have h1 := hf r
    have : ∀ rs : List (List Int), (((rs.map f).map (10 :: ·)).flatten).length ≤ ((rs.map (10 :: ·)).flatten).length + 2 * rs.length := by
      intro rs
      induction rs with
      | nil => simp
      | cons q rs ih =>
        have := hf q
        simp only [List.map_cons, List.flatten_cons, List.length_append, List.length_cons]
        omega
    have h2 := this rs
    simp only [joinR, List.map_cons, List.length_append, List.length_cons]
    omega
theorem joinR_mem {rs : List (List Int)} {x : Int} (h : x ∈ joinR rs) : x = 10 ∨ ∃ r ∈ rs, x ∈ r := by
  cases rs with
  | nil => cases h
  | cons r rs =>
    rcases List.mem_append.1 h with h | h
    · exact .inr ⟨r, by simp, h⟩
    · obtain ⟨l, hl, hx⟩ := List.mem_flatten.1 h
      obtain ⟨q, hq, rfl⟩ := List.mem_map.1 hl
      rcases List.mem_cons.1 hx with hx | hx
      · exact .inl hx
      · exact .inr ⟨q, by simp [hq], hx⟩
theorem shF_len (t : List Int) (E : Nat) (key : Int) (at' : Nat) : (shF t E key at').length ≤ 4 * t.length + 2 := by
  unfold shF
  have h1 := joinR_len (shR key) (shR_len key) (rowsOf ((t.take E).drop at'))
  obtain ⟨h2, h3⟩ := rowsOf_all _ ((t.take E).drop at') (Nat.le_refl _)
  rw [h2] at h1
  rw [List.length_append, List.length_drop]
  rw [List.length_drop, List.length_take] at h1 h3
  omega
theorem shZ_len (t : List Int) (lo hi : Nat) (key : Int) : (shZ t lo hi key).length ≤ 5 * t.length + 2 := by
  unfold shZ
  have := shF_len t (Rw.en t hi) key (Rw.beg t lo)
  rw [List.length_append, List.length_take]
  omega
theorem shZ_vld {t : List Int} {lo hi : Nat} {key : Int} (h : Vld t) : Vld (shZ t lo hi key) := fun x hx => by
  unfold shZ shF at hx
  rcases List.mem_append.1 hx with hx | hx
  · exact h x (List.mem_of_mem_take hx)
  · rcases List.mem_append.1 hx with hx | hx
    · rcases joinR_mem hx with rfl | ⟨r, hr, hx⟩
      · decide
      · obtain ⟨q, hq, rfl⟩ := List.mem_map.1 hr
        rcases shR_mem hx with rfl | hx
        · decide
        · exact h x (List.mem_of_mem_take (List.mem_of_mem_drop (mem_rows hq x hx)))
    · exact h x (List.mem_of_mem_drop hx)
/-- The last row. -/
theorem shF_last {t : List Int} {E : Nat} {key : Int} {at' : Nat} (h : ∀ j, at' ≤ j → j < E → t[j]? ≠ some 10) : shF t E key at' = shR key ((t.take E).drop at') ++ t.drop E := by
  unfold shF
  rw [rowsOf_row]
  · simp [joinR]
  · intro hm
    obtain ⟨i, hi, he⟩ := List.getElem_of_mem hm
    have h2 : ((t.take E).drop at')[i]? = some 10 := by rw [List.getElem?_eq_getElem hi, he]
    rw [List.getElem?_drop, List.getElem?_take] at h2
    split at h2
    · exact h (at' + i) (by omega) (by omega) h2
    · cases h2
/-- A row, and those behind it. -/
theorem shF_step {t : List Int} {E e : Nat} {key : Int} {at' : Nat} (h1 : at' ≤ e) (h2 : e < E) (h10 : t[e]? = some 10) (h : ∀ j, at' ≤ j → j < e → t[j]? ≠ some 10) : shF t E key at' = shR key ((t.take e).drop at') ++ 10 :: shF t E key (e + 1) := by
  have hc : (t.take E).drop at' = (t.take e).drop at' ++ 10 :: (t.take E).drop (e + 1) := by
    have hel : e < t.length := by
      rcases Nat.lt_or_ge e t.length with h | h
      · exact h
      · rw [List.getElem?_eq_none h] at h10; cases h10
    have e1 : t.take E = t.take e ++ 10 :: (t.take E).drop (e + 1) := by
      have h3 : (t.take E)[e]? = some 10 := by rw [List.getElem?_take_of_lt h2]; exact h10
      have h4 := Rw.drop_cons h3
      have h5 : (t.take E).take e = t.take e := by rw [List.take_take]; congr 1; omega
      conv => lhs; rw [← List.take_append_drop e (t.take E), h5, h4]
    conv => lhs; rw [e1]
    rw [List.drop_append_of_le_length (by rw [List.length_take]; omega)]
  have hno : (10 : Int) ∉ (t.take e).drop at' := by
    intro hm
    obtain ⟨i, hi, he⟩ := List.getElem_of_mem hm
    have h2 : ((t.take e).drop at')[i]? = some 10 := by rw [List.getElem?_eq_getElem hi, he]
    rw [List.getElem?_drop, List.getElem?_take] at h2
    split at h2
    · exact h (at' + i) (by omega) (by omega) h2
    · cases h2
  unfold shF
  rw [hc, rowsOf_cut _ hno, List.map_cons, joinR_cons _ _ (by intro h; exact rowsOf_ne _ (List.map_eq_nil_iff.1 h)), List.append_assoc]
  rfl
end Go.Proofs.YtbofjefblhnkoaaGreatDoor
