/-
  COMMANDS OF SINGLE RUNES: rows joined, as lists of runes.
  ROWS SHIFTED, as lists of runes and as bytes; what the library's Split and Join make of rows.
  A PATCH BETWEEN TWO TEXTS, APPLIED; how many rows and runes are left.
  SmallSame: the reference's Len, Rows and May of a patch; the law's walk.
-/
import Derived.Test.YtilkogohiealhaaDoorPB8
import Derived.Test.YtilkogohiealhaaDoorPB7
import Derived.Lib.Split
import Derived.Lib.SplitLaws
import Derived.Lib.CountLaws
import Derived.Lib.IndexBytes
import Derived.Lib.IndexLaws
import Derived.Lib.Join
import Derived.Test.YtilkogohiealhaaDoorPB6
set_option linter.unusedVariables false
namespace Go.Proofs.YtilkogohiealhaaDoor
open Go Go.RowKit

/-- Where what is left of the next row begins. -/
def Rw.nx (u : List Int) (k : Nat) : Nat := skp u (en u k + 1)
/-- Does no blank stand between? -/
def Rw.glu (u : List Int) (k : Nat) : Prop := beg u k = en u k ∨ (∃ x, u[en u k - 1]? = some x ∧ cls x = 0) ∨ nx u k = en u (en u k + 1) ∨ u[nx u k]? = some 41
/-- The next row joined. -/
def Rw.jn (u : List Int) (k : Nat) (G : Bool) : List Int := u.take (en u k) ++ (if G then [] else [32]) ++ u.drop (nx u k)
theorem Rw.nx_le (u : List Int) (k : Nat) (h : en u k < u.length) : en u k + 1 ≤ nx u k ∧ nx u k ≤ en u (en u k + 1) ∧ en u (en u k + 1) ≤ u.length :=
  ⟨skp_ge _ _, skp_le _ _, en_le _ _ (by omega)⟩
theorem Rw.nx_fst (u : List Int) (k : Nat) (h : en u k < u.length) : fst u (en u k + 1) = nx u k := by
  unfold fst nx
  rw [beg_stop (en_at u k h)]
theorem Rw.nx_high (u : List Int) (k : Nat) (h : en u k < u.length) : nx u k = en u (en u k + 1) ↔ nx u k = u.length ∨ u[nx u k]? = some 10 := by
  obtain ⟨h1, h2, h3⟩ := nx_le u k h
  constructor
  · intro he
    by_cases hl : nx u k = u.length
    · exact .inl hl
    · rw [he]
      exact .inr (en_at u _ (by omega))
  · rintro (hl | h10)
    · omega
    · by_cases hlt : nx u k < en u (en u k + 1)
      · exact absurd h10 (en_none u _ _ h1 hlt)
      · omega
theorem Rw.jn_len (u : List Int) (k : Nat) (G : Bool) (h : en u k < u.length) : (jn u k G).length = en u k + (if G then 0 else 1) + (u.length - nx u k) := by
  obtain ⟨h1, h2, h3⟩ := nx_le u k h
  unfold jn
  rw [List.length_append, List.length_append, List.length_take, List.length_drop]
  cases G <;> simp <;> omega
theorem Rw.jn_at (u : List Int) (k : Nat) (G : Bool) (h : en u k < u.length) (i : Nat) (hi : i < en u k) : (jn u k G)[i]? = u[i]? := by
  unfold jn
  rw [List.append_assoc, List.getElem?_append_left (by rw [List.length_take]; omega), List.getElem?_take_of_lt hi]
theorem Rw.beg_pre {s t : List Int} : ∀ k, (∀ i, i < k → s[i]? = t[i]?) → beg s k = beg t k
  | 0, _ => rfl
  | k + 1, h => by
    have ih := beg_pre k fun i hi => h i (by omega)
    by_cases h10 : s[k]? = some 10
    · rw [beg_stop h10, beg_stop (by rw [← h k (by omega)]; exact h10)]
    · rw [beg_step h10, beg_step (by rw [← h k (by omega)]; exact h10), ih]
/-- What holds of the runes on the road. -/
structure JnI (t : List Int) (k : Nat) (u : List Int) : Prop where
  le : k ≤ u.length
  beg : Rw.beg u k = Rw.beg t k
  vld : Vld u
  zero : (0 : Int) ∉ u
  bytes : (Utf.bytes u).length ≤ (Utf.bytes t).length
  len : u.length ≤ t.length
theorem JnI.first {s : ByteArray} {k : Nat} (hm : mayB s = true) (hk : k ≤ (rs s).length) : JnI (rs s) k (rs s) := ⟨hk, rfl, rs_vld hm, rs_zero hm, Nat.le_refl _, Nat.le_refl _⟩
theorem JnI.may {s : ByteArray} {k : Nat} {u : List Int} (hm : mayB s = true) (h : JnI (rs s) k u) : mayB (runesBytes u) = true := by
  rw [may_txt h.vld h.zero]
  have h1 := h.bytes
  rw [rs_bytes hm] at h1
  have h2 := mayB_size hm
  exact decide_eq_true (by omega)
theorem bytes_app (a b : List Int) : (Utf.bytes (a ++ b)).length = (Utf.bytes a).length + (Utf.bytes b).length := by
  rw [← txt_size, ← txt_size, ← txt_size, ← txt_append, ByteArray.size_append]
theorem JnI.next {t : List Int} {k : Nat} {u : List Int} (h : JnI t k u) (G : Bool) (hl : Rw.en u k < u.length) : JnI t k (Rw.jn u k G) := by
  obtain ⟨h1, h2, h3⟩ := Rw.nx_le u k hl
  have hge := Rw.en_ge u k
  have hlen := Rw.jn_len u k G hl
  have hu : u = u.take (Rw.en u k) ++ ([10] ++ u.drop (Rw.en u k + 1)) := by
    have h10 := Rw.en_at u k hl
    have := Rw.drop_cons h10
    conv => lhs; rw [← List.take_append_drop (Rw.en u k) u, this]
    rfl
  have hsub : List.Sublist (u.drop (Rw.nx u k)) (u.drop (Rw.en u k + 1)) := by
    have : u.drop (Rw.nx u k) = (u.drop (Rw.en u k + 1)).drop (Rw.nx u k - (Rw.en u k + 1)) := by rw [List.drop_drop]; congr 1; omega
    rw [this]
    exact List.drop_sublist _ _
  refine ⟨by rw [hlen]; omega, ?_, ?_, ?_, ?_, ?_⟩
  · rw [← h.beg]
    exact Rw.beg_pre k fun i hi => Rw.jn_at u k G hl i (by omega)
  · intro x hx
    unfold Rw.jn at hx
    rcases List.mem_append.1 hx with hx | hx
    · rcases List.mem_append.1 hx with hx | hx
      · exact h.vld x (List.mem_of_mem_take hx)
      · cases G
        · simp at hx; subst hx; decide
        · simp at hx
    · exact h.vld x (List.mem_of_mem_drop hx)
  · intro hx
    unfold Rw.jn at hx
    rcases List.mem_append.1 hx with hx | hx
    · rcases List.mem_append.1 hx with hx | hx
      · exact h.zero (List.mem_of_mem_take hx)
      · cases G
        · simp at hx
        · simp at hx
    · exact h.zero (List.mem_of_mem_drop hx)
  · refine Nat.le_trans ?_ h.bytes
    have hb := bytes_sub hsub
    have e1 : (Utf.bytes u).length = (Utf.bytes (u.take (Rw.en u k))).length + ((Utf.bytes [10]).length + (Utf.bytes (u.drop (Rw.en u k + 1))).length) := by
      conv => lhs; rw [hu]
      rw [bytes_app, bytes_app]
    unfold Rw.jn
    rw [bytes_app, bytes_app, e1]
    have e2 : (Utf.bytes [10]).length = 1 := by decide
    have e3 : (Utf.bytes (if G then [] else [32])).length ≤ 1 := by cases G <;> decide
    omega
  · have := h.len
    rw [hlen]
    cases G <;> simp <;> omega
theorem runey_vld {t : List Int} (h : Vld t) : Runey t := fun r hr => by
  have := h r hr
  simp [Utf8.valid] at this
  omega
open Classical in
/-- Joined so many times: the runes, and where the last one was joined. -/
noncomputable def jst (t : List Int) (k : Nat) : Nat → Option (List Int × Nat)
  | 0 => some (t, Rw.en t k)
  | i + 1 => match jst t k i with
    | none => none
    | some (u, _) => if Rw.en u k = u.length then none else some (Rw.jn u k (decide (Rw.glu u k)), Rw.en u k)
theorem jst_stop {t : List Int} {k i : Nat} {u : List Int} {e : Nat} (h : jst t k i = some (u, e)) (hl : Rw.en u k = u.length) : jst t k (i + 1) = none := by
  simp only [jst, h]
  rw [if_pos hl]
open Classical in
theorem jst_step {t : List Int} {k i : Nat} {u : List Int} {e : Nat} {G : Bool} (h : jst t k i = some (u, e)) (hl : Rw.en u k < u.length) (hG : G = true ↔ Rw.glu u k) : jst t k (i + 1) = some (Rw.jn u k G, Rw.en u k) := by
  simp only [jst, h]
  rw [if_neg (by omega)]
  have : decide (Rw.glu u k) = G := by
    by_cases hg : Rw.glu u k
    · rw [decide_eq_true hg, hG.2 hg]
    · rw [decide_eq_false hg]
      cases G with
      | false => rfl
      | true => exact absurd (hG.1 rfl) hg
  rw [this]
theorem jst_none {t : List Int} {k i : Nat} (h : jst t k i = none) : ∀ n, i ≤ n → jst t k n = none := by
  intro n hn
  induction n with
  | zero => obtain rfl : i = 0 := by omega
            exact h
  | succ n ih =>
    by_cases he : i = n + 1
    · rw [← he]; exact h
    · simp only [jst, ih (by omega)]
/-- What J makes. -/
def TakeJ (s : ByteArray) (k n : Nat) (v : Value) : Prop :=
  (jst (rs s) k n = none → v = chgT 0 0 ⟨#[]⟩ 0 ⟨#[]⟩ 6) ∧ (∀ u e, jst (rs s) k n = some (u, e) → MadeV s u (Rw.rst u e : Nat) v)
end Go.Proofs.YtilkogohiealhaaDoor
namespace Go.Proofs.YtilkogohiealhaaDoor
open Go Go.RowKit

theorem enc_ten {n : Int} (hv : Utf8.valid n = true) (h0 : n ≠ 10) : ∀ b ∈ Utf.enc n, b ≠ 10 := by
  have hn := Utf.int_valid hv
  obtain ⟨c, rfl⟩ := Int.eq_ofNat_of_zero_le (show 0 ≤ n by omega)
  rw [Utf.enc_of hv]
  intro b hb e
  subst e
  have hz : ∀ m, m < 256 → (10 : UInt8) = UInt8.ofNat m → m = 10 := fun m hm h => by
    have := congrArg UInt8.toNat h
    rw [Utf.toNat_ofNat hm] at this
    simpa using this.symm
  by_cases h1 : c < 128
  · rw [if_pos h1] at hb
    simp only [List.mem_singleton] at hb
    have := hz c (by omega) hb
    omega
  rw [if_neg h1] at hb
  by_cases h2 : c < 2048
  · rw [if_pos h2] at hb
    simp only [List.mem_cons, List.not_mem_nil, or_false] at hb
    rcases hb with hb | hb
    · have := hz _ (by omega) hb; omega
    · have := hz _ (by omega) hb; omega
  rw [if_neg h2] at hb
  by_cases h3 : c < 65536
  · rw [if_pos h3] at hb
    simp only [List.mem_cons, List.not_mem_nil, or_false] at hb
    rcases hb with hb | hb | hb
    · have := hz _ (by omega) hb; omega
    · have := hz _ (by omega) hb; omega
    · have := hz _ (by omega) hb; omega
  rw [if_neg h3] at hb
  simp only [List.mem_cons, List.not_mem_nil, or_false] at hb
  rcases hb with hb | hb | hb | hb
  · have := hz _ (by omega) hb; omega
  · have := hz _ (by omega) hb; omega
  · have := hz _ (by omega) hb; omega
  · have := hz _ (by omega) hb; omega
theorem bytes_ten {t : List Int} (hv : Vld t) (h0 : (10 : Int) ∉ t) : ∀ b ∈ Utf.bytes t, b ≠ 10 := by
  induction t with
  | nil => intro b hb; cases hb
  | cons n t ih =>
    intro b hb
    have hb' : b ∈ Utf.enc n ++ Utf.bytes t := hb
    rcases List.mem_append.1 hb' with h | h
    · exact enc_ten (hv n (by simp)) (fun e => h0 (by simp [e])) b h
    · exact ih (fun r hr => hv r (by simp [hr])) (fun h => h0 (by simp [h])) b h
theorem ub_app (a b : List Int) : Utf.bytes (a ++ b) = Utf.bytes a ++ Utf.bytes b := by
  induction a with
  | nil => rfl
  | cons c a ih => show Utf.enc c ++ Utf.bytes (a ++ b) = (Utf.enc c ++ Utf.bytes a) ++ Utf.bytes b; rw [ih, List.append_assoc]

/-- What stands between newlines; rows, joined. -/
def rowsOf : List Int → List (List Int)
  | [] => [[]]
  | c :: l => if c = 10 then [] :: rowsOf l else match rowsOf l with
    | [] => [[c]]
    | r :: rs => (c :: r) :: rs
def joinR : List (List Int) → List Int
  | [] => []
  | r :: rs => r ++ (rs.map (10 :: ·)).flatten
theorem rowsOf_row : ∀ {a : List Int}, (10 : Int) ∉ a → rowsOf a = [a]
  | [], _ => rfl
  | c :: a, h => by
    have hc : c ≠ 10 := fun e => h (by simp [e])
    have ih := rowsOf_row (a := a) (fun e => h (by simp [e]))
    simp only [rowsOf]
    rw [if_neg hc, ih]
theorem rowsOf_cut : ∀ {a : List Int} (l : List Int), (10 : Int) ∉ a → rowsOf (a ++ 10 :: l) = a :: rowsOf l
  | [], l, _ => by simp [rowsOf]
  | c :: a, l, h => by
    have hc : c ≠ 10 := fun e => h (by simp [e])
    have ih := rowsOf_cut (a := a) l (fun e => h (by simp [e]))
    simp only [List.cons_append, rowsOf]
    rw [if_neg hc, ih]
theorem ten_split : ∀ u : List Int, (10 : Int) ∉ u ∨ ∃ a l, u = a ++ 10 :: l ∧ (10 : Int) ∉ a
  | [] => .inl (by simp)
  | c :: u => by
    by_cases hc : c = 10
    · exact .inr ⟨[], u, by rw [hc]; rfl, by simp⟩
    · rcases ten_split u with h | ⟨a, l, h1, h2⟩
      · exact .inl (by simp [h]; exact fun e => hc e.symm)
      · exact .inr ⟨c :: a, l, by rw [h1]; rfl, by simp [h2]; exact fun e => hc e.symm⟩
theorem joinR_cons (r : List Int) (rs : List (List Int)) (h : rs ≠ []) : joinR (r :: rs) = r ++ 10 :: joinR rs := by
  cases rs with
  | nil => exact absurd rfl h
  | cons q rs => simp [joinR]
theorem rowsOf_ne (u : List Int) : rowsOf u ≠ [] := by
  rcases ten_split u with h | ⟨a, l, rfl, h⟩
  · rw [rowsOf_row h]; simp
  · rw [rowsOf_cut l h]; simp
theorem rowsOf_all (n : Nat) : ∀ (u : List Int), u.length ≤ n → joinR (rowsOf u) = u ∧ (rowsOf u).length ≤ u.length + 1 := by
  induction n with
  | zero =>
    intro u hu
    obtain rfl := List.eq_nil_of_length_eq_zero (Nat.le_zero.1 hu)
    simp [rowsOf, joinR]
  | succ n ih =>
    intro u hn
    rcases ten_split u with h | ⟨a, l, rfl, h⟩
    · rw [rowsOf_row h]; simp [joinR]
    · rw [List.length_append, List.length_cons] at hn
      have ih := ih l (by omega)
      rw [rowsOf_cut l h, joinR_cons _ _ (rowsOf_ne l), ih.1]
      refine ⟨rfl, ?_⟩
      rw [List.length_cons, List.length_append, List.length_cons]
      omega
theorem mem_rows {u : List Int} {r : List Int} (h : r ∈ rowsOf u) : ∀ x ∈ r, x ∈ u := by
  have : ∀ (n : Nat) (u : List Int), u.length ≤ n → ∀ r ∈ rowsOf u, ∀ x ∈ r, x ∈ u := by
    intro n
    induction n with
    | zero =>
      intro u hu r hr
      obtain rfl := List.eq_nil_of_length_eq_zero (Nat.le_zero.1 hu)
      simp [rowsOf] at hr
      subst hr
      intro x hx; cases hx
    | succ n ih =>
      intro u hu r hr x hx
      rcases ten_split u with h | ⟨a, l, rfl, h⟩
      · rw [rowsOf_row h, List.mem_singleton] at hr
        subst hr; exact hx
      · rw [List.length_append, List.length_cons] at hu
        rw [rowsOf_cut l h] at hr
        rcases List.mem_cons.1 hr with hr | hr
        · subst hr; simp [hx]
        · have := ih l (by omega) r hr x hx
          simp [this]
  exact this u.length u (Nat.le_refl _) r h

/-! ### The library's -/
theorem ib_none {l : List UInt8} {c : UInt8} (h : ∀ b ∈ l, b ≠ c) : Lib.index l [c] = -1 := by
  rw [Lib.index_one]
  have hge := Lib.indexByte_ge l c
  by_cases h1 : Lib.indexByte l c = -1
  · exact h1
  · obtain ⟨o, ho⟩ := Int.eq_ofNat_of_zero_le (show 0 ≤ Lib.indexByte l c by omega)
    have := (Lib.indexByte_some ho).1
    exact absurd rfl (h c (List.mem_of_getElem? this))
theorem ib_at {a l : List UInt8} {c : UInt8} (h : ∀ b ∈ a, b ≠ c) : Lib.index (a ++ c :: l) [c] = (a.length : Int) := by
  rw [Lib.index_one]
  have hge := Lib.indexByte_ge (a ++ c :: l) c
  have hat : (a ++ c :: l)[a.length]? = some c := by simp
  by_cases h1 : Lib.indexByte (a ++ c :: l) c = -1
  · exact absurd hat (Lib.indexByte_none h1 _)
  · obtain ⟨o, ho⟩ := Int.eq_ofNat_of_zero_le (show 0 ≤ Lib.indexByte (a ++ c :: l) c by omega)
    obtain ⟨h2, h3⟩ := Lib.indexByte_some ho
    rw [ho]
    by_cases h4 : o < a.length
    · rw [List.getElem?_append_left h4] at h2
      exact absurd rfl (h c (List.mem_of_getElem? h2))
    · by_cases h5 : o = a.length
      · rw [h5]
      · exact absurd hat (h3 _ (by omega))
theorem splitK_rows (n : Nat) : ∀ (u : List Int), u.length ≤ n → Vld u → Lib.splitK [10] 0 (Lib.count (Utf.bytes u) [10]) (Utf.bytes u) = (rowsOf u).map Utf.bytes := by
  induction n with
  | zero =>
    intro u hu hv
    obtain rfl := List.eq_nil_of_length_eq_zero (Nat.le_zero.1 hu)
    have hi := ib_none (l := Utf.bytes []) (c := 10) (fun b hb => by cases hb)
    rw [Lib.count_miss hi]
    rfl
  | succ n ih =>
    intro u hn hv
    rcases ten_split u with h | ⟨a, l, rfl, h⟩
    · have hi := ib_none (bytes_ten hv h)
      rw [Lib.count_miss hi, rowsOf_row h]
      rfl
    · rw [List.length_append, List.length_cons] at hn
      have hva : Vld a := fun r hr => hv r (by simp [hr])
      have hvl : Vld l := fun r hr => hv r (by simp [hr])
      have ih := ih l (by omega) hvl
      have hb : Utf.bytes (a ++ 10 :: l) = Utf.bytes a ++ 10 :: Utf.bytes l := by
        rw [ub_app]
        show _ ++ (Utf.enc 10 ++ Utf.bytes l) = _
        rw [show Utf.enc 10 = [10] by decide]
        rfl
      have hi := ib_at (l := Utf.bytes l) (bytes_ten hva h)
      have hd : (Utf.bytes a ++ (10 : UInt8) :: Utf.bytes l).drop ((Utf.bytes a).length + 1) = Utf.bytes l := by
        rw [List.drop_append]
        simp
      rw [hb, Lib.count_hit (by simp) hi, rowsOf_cut l h]
      rw [show ([10] : List UInt8).length = 1 from rfl, hd, Nat.add_comm 1]
      unfold Lib.splitK
      have hm : ¬ (Lib.index (Utf.bytes a ++ (10 : UInt8) :: Utf.bytes l) [10] == -1) = true := fun e => by have := beq_iff_eq.1 e; omega
      rw [if_neg hm, hi, show ((Utf.bytes a).length : Int).toNat = (Utf.bytes a).length from Int.toNat_natCast _, show ([10] : List UInt8).length = 1 from rfl, hd, ih]
      simp
/-- The byte that ends a row. -/
def nlB : ByteArray := ⟨#[10]⟩
theorem split_rows {u : List Int} (hv : Vld u) : Lib.splitB nlB 0 (Lib.countB (runesBytes u) nlB) (runesBytes u) = (rowsOf u).map runesBytes := by
  have h1 := Lib.splitB_data nlB 0 (Lib.countB (runesBytes u) nlB) (runesBytes u)
  have h2 := splitK_rows u.length u (Nat.le_refl _) hv
  have e1 : nlB.data.toList = [10] := rfl
  have e2 : (runesBytes u).data.toList = Utf.bytes u := txt_list u
  unfold Lib.countB at h1 ⊢
  rw [e1, e2] at h1 ⊢
  rw [h2] at h1
  have h3 : ((rowsOf u).map runesBytes).map (·.data.toList) = (rowsOf u).map Utf.bytes := by
    rw [List.map_map]
    exact List.map_congr_left fun r _ => txt_list r
  rw [← h3] at h1
  exact (List.map_inj_right fun x y h => ba_ext h).1 h1
theorem split_len {u : List Int} (hv : Vld u) : (rowsOf u).length = Lib.countB (runesBytes u) nlB + 1 := by
  have := Lib.splitB_all nlB (by decide) 0 _ (runesBytes u) rfl
  rw [split_rows hv, List.length_map] at this
  exact this
theorem join_rows (rs : List (List Int)) : (⟨(Lib.join ((rs.map runesBytes).map (·.data.toList)) nlB.data.toList).toArray⟩ : ByteArray) = runesBytes (joinR rs) := by
  apply ba_ext
  rw [txt_list]
  show (Lib.join _ [10]) = _
  have h3 : (rs.map runesBytes).map (·.data.toList) = rs.map Utf.bytes := by
    rw [List.map_map]
    exact List.map_congr_left fun r _ => txt_list r
  rw [h3]
  cases rs with
  | nil => rfl
  | cons r rs =>
    rw [List.map_cons, Lib.join_cons]
    show _ = Utf.bytes (r ++ (rs.map (10 :: ·)).flatten)
    rw [ub_app]
    congr 1
    induction rs with
    | nil => rfl
    | cons q rs ih =>
      show ([10] ++ Utf.bytes q) ++ Lib.joinTail [10] (rs.map Utf.bytes) = Utf.bytes ((10 :: q) ++ (rs.map (10 :: ·)).flatten)
      rw [ub_app, ih (by rw [List.map_map]; exact List.map_congr_left fun r _ => txt_list r)]
      rfl

/-! ### Rows shifted -/
def str1 : List Int → List Int
  | [] => []
  | c :: l => if Rw.cls c = 0 then l else c :: l
def stN : Nat → List Int → List Int
  | 0, l => l
  | n + 1, l => stN n (str1 l)
theorem stN_nil : ∀ n, stN n [] = []
  | 0 => rfl
  | n + 1 => stN_nil n
theorem stN_stop {c : Int} {l : List Int} (h : Rw.cls c ≠ 0) : ∀ n, stN n (c :: l) = c :: l
  | 0 => rfl
  | n + 1 => by simp only [stN, str1]; rw [if_neg h]; exact stN_stop h n
theorem str1_sub (l : List Int) : List.Sublist (str1 l) l := by
  cases l with
  | nil => exact List.Sublist.refl _
  | cons c l =>
    simp only [str1]
    split
    · exact List.sublist_cons_self _ _
    · exact List.Sublist.refl _
theorem stN_sub : ∀ n (l : List Int), List.Sublist (stN n l) l
  | 0, l => List.Sublist.refl _
  | n + 1, l => (stN_sub n (str1 l)).trans (str1_sub l)
def shR (key : Int) (r : List Int) : List Int := if key = 60 then stN 2 r else if r = [] then [] else 32 :: 32 :: r
theorem shR_len (key : Int) (r : List Int) : (shR key r).length ≤ r.length + 2 := by
  unfold shR
  split
  · have := (stN_sub 2 r).length_le; omega
  · split <;> simp
theorem shR_mem {key : Int} {r : List Int} {x : Int} (h : x ∈ shR key r) : x = 32 ∨ x ∈ r := by
  unfold shR at h
  split at h
  · exact .inr ((stN_sub 2 r).subset h)
  · split at h
    · cases h
    · simp at h
      rcases h with h | h
      · exact .inl h
      · exact .inr h
def shF (t : List Int) (E : Nat) (key : Int) (at' : Nat) : List Int := joinR ((rowsOf ((t.take E).drop at')).map (shR key)) ++ t.drop E
def shZ (t : List Int) (lo hi : Nat) (key : Int) : List Int := t.take (Rw.beg t lo) ++ shF t (Rw.en t hi) key (Rw.beg t lo)
theorem joinR_len (f : List Int → List Int) (hf : ∀ r, (f r).length ≤ r.length + 2) : ∀ rs : List (List Int), (joinR (rs.map f)).length ≤ (joinR rs).length + 2 * rs.length
  | [] => by simp [joinR]
  | r :: rs => by
    have h1 := hf r
    have : ∀ rs : List (List Int), (((rs.map f).map (10 :: ·)).flatten).length ≤ ((rs.map (10 :: ·)).flatten).length + 2 * rs.length := by
      intro rs
      induction rs with
      | nil => simp
      | cons q rs ih =>
        have := hf q
        simp only [List.map_cons, List.flatten_cons, List.length_append, List.length_cons]
        omega
    have h2 := this rs
    simp only [joinR, List.map_cons, List.length_append, List.length_cons]
    omega
theorem joinR_mem {rs : List (List Int)} {x : Int} (h : x ∈ joinR rs) : x = 10 ∨ ∃ r ∈ rs, x ∈ r := by
  cases rs with
  | nil => cases h
  | cons r rs =>
    rcases List.mem_append.1 h with h | h
    · exact .inr ⟨r, by simp, h⟩
    · obtain ⟨l, hl, hx⟩ := List.mem_flatten.1 h
      obtain ⟨q, hq, rfl⟩ := List.mem_map.1 hl
      rcases List.mem_cons.1 hx with hx | hx
      · exact .inl hx
      · exact .inr ⟨q, by simp [hq], hx⟩
theorem shF_len (t : List Int) (E : Nat) (key : Int) (at' : Nat) : (shF t E key at').length ≤ 4 * t.length + 2 := by
  unfold shF
  have h1 := joinR_len (shR key) (shR_len key) (rowsOf ((t.take E).drop at'))
  obtain ⟨h2, h3⟩ := rowsOf_all _ ((t.take E).drop at') (Nat.le_refl _)
  rw [h2] at h1
  rw [List.length_append, List.length_drop]
  rw [List.length_drop, List.length_take] at h1 h3
  omega
theorem shZ_len (t : List Int) (lo hi : Nat) (key : Int) : (shZ t lo hi key).length ≤ 5 * t.length + 2 := by
  unfold shZ
  have := shF_len t (Rw.en t hi) key (Rw.beg t lo)
  rw [List.length_append, List.length_take]
  omega
theorem shZ_vld {t : List Int} {lo hi : Nat} {key : Int} (h : Vld t) : Vld (shZ t lo hi key) := fun x hx => by
  unfold shZ shF at hx
  rcases List.mem_append.1 hx with hx | hx
  · exact h x (List.mem_of_mem_take hx)
  · rcases List.mem_append.1 hx with hx | hx
    · rcases joinR_mem hx with rfl | ⟨r, hr, hx⟩
      · decide
      · obtain ⟨q, hq, rfl⟩ := List.mem_map.1 hr
        rcases shR_mem hx with rfl | hx
        · decide
        · exact h x (List.mem_of_mem_take (List.mem_of_mem_drop (mem_rows hq x hx)))
    · exact h x (List.mem_of_mem_drop hx)
/-- The last row. -/
theorem shF_last {t : List Int} {E : Nat} {key : Int} {at' : Nat} (h : ∀ j, at' ≤ j → j < E → t[j]? ≠ some 10) : shF t E key at' = shR key ((t.take E).drop at') ++ t.drop E := by
  unfold shF
  rw [rowsOf_row]
  · simp [joinR]
  · intro hm
    obtain ⟨i, hi, he⟩ := List.getElem_of_mem hm
    have h2 : ((t.take E).drop at')[i]? = some 10 := by rw [List.getElem?_eq_getElem hi, he]
    rw [List.getElem?_drop, List.getElem?_take] at h2
    split at h2
    · exact h (at' + i) (by omega) (by omega) h2
    · cases h2
/-- A row, and those behind it. -/
theorem shF_step {t : List Int} {E e : Nat} {key : Int} {at' : Nat} (h1 : at' ≤ e) (h2 : e < E) (h10 : t[e]? = some 10) (h : ∀ j, at' ≤ j → j < e → t[j]? ≠ some 10) : shF t E key at' = shR key ((t.take e).drop at') ++ 10 :: shF t E key (e + 1) := by
  have hc : (t.take E).drop at' = (t.take e).drop at' ++ 10 :: (t.take E).drop (e + 1) := by
    have hel : e < t.length := by
      rcases Nat.lt_or_ge e t.length with h | h
      · exact h
      · rw [List.getElem?_eq_none h] at h10; cases h10
    have e1 : t.take E = t.take e ++ 10 :: (t.take E).drop (e + 1) := by
      have h3 : (t.take E)[e]? = some 10 := by rw [List.getElem?_take_of_lt h2]; exact h10
      have h4 := Rw.drop_cons h3
      have h5 : (t.take E).take e = t.take e := by rw [List.take_take]; congr 1; omega
      conv => lhs; rw [← List.take_append_drop e (t.take E), h5, h4]
    conv => lhs; rw [e1]
    rw [List.drop_append_of_le_length (by rw [List.length_take]; omega)]
  have hno : (10 : Int) ∉ (t.take e).drop at' := by
    intro hm
    obtain ⟨i, hi, he⟩ := List.getElem_of_mem hm
    have h2 : ((t.take e).drop at')[i]? = some 10 := by rw [List.getElem?_eq_getElem hi, he]
    rw [List.getElem?_drop, List.getElem?_take] at h2
    split at h2
    · exact h (at' + i) (by omega) (by omega) h2
    · cases h2
  unfold shF
  rw [hc, rowsOf_cut _ hno, List.map_cons, joinR_cons _ _ (by intro h; exact rowsOf_ne _ (List.map_eq_nil_iff.1 h)), List.append_assoc]
  rfl
end Go.Proofs.YtilkogohiealhaaDoor
namespace Go.Proofs.YtilkogohiealhaaDoor
open Go Go.RowKit

theorem Rw.cpl_take : ∀ s t : List Int, s.take (cpl s t) = t.take (cpl s t)
  | [], t => by simp [cpl]
  | a :: s, [] => by simp [cpl]
  | a :: s, b :: t => by
    unfold cpl
    split
    · rename_i h
      subst h
      rw [List.take_succ_cons, List.take_succ_cons, cpl_take s t]
    · rfl
theorem Rw.suf {s t : List Int} (q : Nat) (hs : q ≤ s.length) (ht : q ≤ t.length) (h : s.reverse.take q = t.reverse.take q) : s.drop (s.length - q) = t.drop (t.length - q) := by
  rw [List.take_reverse, List.take_reverse] at h
  have := congrArg List.reverse h
  simpa using this
/-- The patch between two texts, applied to the one, makes the other. -/
theorem Rw.app (s t : List Int) : s.take (bat s t) ++ bins s t ++ s.drop (bat s t + bdel s t) = t := by
  obtain ⟨h1, h2⟩ := bat_le s t
  obtain ⟨h3, h4⟩ := bsf_le s t
  have e1 : s.take (bat s t) = t.take (bat s t) := cpl_take s t
  have e2 : (s.drop (bat s t)).drop ((s.drop (bat s t)).length - bsf s t) = (t.drop (bat s t)).drop ((t.drop (bat s t)).length - bsf s t) :=
    suf _ (by rw [List.length_drop]; exact h3) (by rw [List.length_drop]; exact h4) (cpl_take _ _)
  rw [List.drop_drop, List.length_drop, List.length_drop] at e2
  have e3 : s.drop (bat s t + bdel s t) = (t.drop (bat s t)).drop (t.length - bat s t - bsf s t) := by
    rw [← e2]
    rfl
  rw [e1, e3]
  unfold bins
  rw [List.append_assoc, List.take_append_drop, List.take_append_drop]
theorem Rw.app_le (s t : List Int) : bat s t + bdel s t ≤ s.length := by
  obtain ⟨h1, h2⟩ := bat_le s t
  obtain ⟨h3, h4⟩ := bsf_le s t
  unfold bdel
  omega
/-- How many rows end. -/
def c10 (t : List Int) : Nat := t.count 10
theorem c10_app (a b : List Int) : c10 (a ++ b) = c10 a + c10 b := List.count_append
theorem c10_none {a : List Int} (h : (10 : Int) ∉ a) : c10 a = 0 := List.count_eq_zero.2 h
theorem c10_same : ∀ {s t : List Int}, s.length = t.length → (∀ i : Nat, s[i]? = some 10 ↔ t[i]? = some 10) → c10 s = c10 t
  | [], [], _, _ => rfl
  | [], b :: t, h, _ => by simp at h
  | a :: s, [], h, _ => by simp at h
  | a :: s, b :: t, h, hi => by
    have h0 := hi 0
    simp at h0
    have ih := c10_same (s := s) (t := t) (by simpa using h) (fun i => by have := hi (i + 1); simpa using this)
    unfold c10 at ih ⊢
    rw [List.count_cons, List.count_cons, ih]
    by_cases ha : a = 10
    · rw [ha, h0.1 ha]
    · have hb : ¬ b = 10 := fun e => ha (h0.2 e)
      have e1 : (a == 10) = false := by rw [beq_eq_false_iff_ne]; exact ha
      have e2 : (b == 10) = false := by rw [beq_eq_false_iff_ne]; exact hb
      rw [e1, e2]
theorem bytes_c10 {t : List Int} (hv : Vld t) : (Utf.bytes t).count 10 = c10 t := by
  induction t with
  | nil => rfl
  | cons c t ih =>
    have hv' : Vld t := fun r hr => hv r (by simp [hr])
    show (Utf.enc c ++ Utf.bytes t).count 10 = _
    rw [List.count_append, ih hv']
    unfold c10
    rw [List.count_cons]
    by_cases hc : c = 10
    · subst hc
      rw [show (Utf.enc 10).count 10 = 1 by decide, Nat.add_comm]
      rfl
    · have e : (c == 10) = false := by rw [beq_eq_false_iff_ne]; exact hc
      rw [List.count_eq_zero.2 (fun hm => enc_ten (hv c (by simp)) hc 10 hm rfl), e]
      simp
/-- One rune less, that ends no row. -/
theorem lft_c10 {t : List Int} {k : Nat} {x : Int} (h : t[k]? = some x) (hx : x ≠ 10) : c10 (Rw.lft t k (k + 1)) = c10 t := by
  have e : t = t.take k ++ ([x] ++ t.drop (k + 1)) := by
    have := Rw.drop_cons h
    conv => lhs; rw [← List.take_append_drop k t, this]
    rfl
  unfold Rw.lft
  conv => rhs; rw [e]
  rw [c10_app, c10_app, c10_app, c10_none (a := [x]) (by simp; exact fun e => hx e.symm)]
  omega
/-- The next row joined: one row less. -/
theorem jn_c10 {u : List Int} {k : Nat} {G : Bool} (h : Rw.en u k < u.length) : c10 (Rw.jn u k G) + 1 = c10 u := by
  obtain ⟨h1, h2, h3⟩ := Rw.nx_le u k h
  have h10 := Rw.en_at u k h
  have e : u = u.take (Rw.en u k) ++ ([10] ++ ((u.drop (Rw.en u k + 1)).take (Rw.nx u k - (Rw.en u k + 1)) ++ u.drop (Rw.nx u k))) := by
    have h4 := Rw.drop_cons h10
    have h5 : u.drop (Rw.en u k + 1) = (u.drop (Rw.en u k + 1)).take (Rw.nx u k - (Rw.en u k + 1)) ++ u.drop (Rw.nx u k) := by
      conv => lhs; rw [← List.take_append_drop (Rw.nx u k - (Rw.en u k + 1)) (u.drop (Rw.en u k + 1)), List.drop_drop]
      congr 2
      omega
    rw [← h5]
    conv => lhs; rw [← List.take_append_drop (Rw.en u k) u, h4]
    rfl
  have hno : (10 : Int) ∉ (u.drop (Rw.en u k + 1)).take (Rw.nx u k - (Rw.en u k + 1)) := by
    intro hm
    obtain ⟨i, hi, he⟩ := List.getElem_of_mem hm
    have h6 : ((u.drop (Rw.en u k + 1)).take (Rw.nx u k - (Rw.en u k + 1)))[i]? = some 10 := by rw [List.getElem?_eq_getElem hi, he]
    rw [List.getElem?_take] at h6
    split at h6
    · rw [List.getElem?_drop] at h6
      exact Rw.en_none u (Rw.en u k + 1) _ (by omega) (by omega) h6
    · cases h6
  conv => rhs; rw [e]
  unfold Rw.jn
  rw [c10_app, c10_app, c10_app, c10_app, c10_app, c10_none hno]
  have e10 : c10 [10] = 1 := by decide
  have e32 : c10 (if G then [] else [32]) = 0 := by cases G <;> decide
  omega
theorem rep_c10 {t : List Int} {k : Nat} {r x : Int} (h : t[k]? = some x) (hx : x ≠ 10) (hr : r ≠ 10) : c10 (Rw.rep t k (k + 1) r) = c10 t := by
  have hl : k < t.length := by
    rcases Nat.lt_or_ge k t.length with h' | h'
    · exact h'
    · rw [List.getElem?_eq_none h'] at h; cases h
  refine c10_same (Rw.rep_len (by omega) (by omega)) fun i => ?_
  rw [Rw.rep_at (by omega) (by omega)]
  by_cases hi : k ≤ i ∧ i < k + 1
  · rw [if_pos hi]
    obtain rfl : i = k := by omega
    rw [h]
    constructor
    · intro e; injection e with e; exact absurd e hr
    · intro e; injection e with e; exact absurd e hx
  · rw [if_neg hi]
/-- What the law asks of what comes. -/
def Same (key : Int) (s : ByteArray) (v : Value) : Prop :=
  (∃ E : Int, (E != 0) = true ∧ v = chgT 0 0 ⟨#[]⟩ 0 ⟨#[]⟩ E) ∨
  (∃ (u tk : List Int) (x : Int), Vld u ∧ (0 : Int) ∉ u ∧ u.length ≤ 5000 ∧ Vld tk ∧ tk.length ≤ 5000 ∧ v = chgT (Rw.bat (rs s) u : Nat) (Rw.bdel (rs s) u : Nat) (runesBytes (Rw.bins (rs s) u)) x (runesBytes tk) 0 ∧
    (key = 114 ∨ key = 126 → u.length = (rs s).length ∧ c10 u = c10 (rs s)) ∧ (key = 74 → c10 u + 1 = c10 (rs s)) ∧ (key = 120 ∨ key = 88 → u.length + 1 = (rs s).length ∧ c10 u = c10 (rs s) ∧ tk.length = 1))
theorem mem_at {t : List Int} {i : Nat} {x : Int} (h : t[i]? = some x) : x ∈ t := List.mem_of_getElem? h
theorem same_c {key : Int} {s : ByteArray} {k : Nat} {v : Value} (hkey : key = 120 ∨ key = 88) (hm : mayB s = true) (hk : k ≤ (rs s).length) (h : CutV s key (cutS (rs s) key k 1).1 (cutS (rs s) key k 1).2 v) : Same key s v := by
  have hl : (rs s).length ≤ 4000 := by have := rs_len s; have := mayB_size hm; omega
  have hel := Rw.en_le (rs s) k hk
  have hge := Rw.en_ge (rs s) k
  have hbl := Rw.beg_le (rs s) k
  obtain ⟨hle1, hle2⟩ := cutS_le (key := key) (c := 1) hk
  have hcs := cutS_way (t := rs s) (k := k) (c := 1) hkey
  generalize (cutS (rs s) key k 1).1 = L at *
  generalize (cutS (rs s) key k 1).2 = H at *
  by_cases he : L = H
  · exact .inl ⟨6, rfl, h.1 he⟩
  · have hH : H = L + 1 := by rcases hcs with ⟨_, h1, h2⟩ | ⟨_, h1, h2⟩ <;> omega
    subst hH
    obtain ⟨x, hx⟩ : ∃ x, (rs s)[L]? = some x := ⟨_, List.getElem?_eq_getElem (by omega)⟩
    have h10 : x ≠ 10 := fun e => by
      rcases hcs with ⟨_, h1, h2⟩ | ⟨_, h1, h2⟩
      · exact Rw.en_none (rs s) k L (by omega) (by omega) (by rw [hx, e])
      · exact Rw.beg_none (rs s) k L (by omega) (by omega) (by rw [hx, e])
    have hlen := Rw.lft_len (rs s) L (L + 1) (by omega) hle2
    have hsub := Rw.lft_sub (rs s) L (L + 1) (by omega)
    refine .inr ⟨Rw.lft (rs s) L (L + 1), Rw.tkn (rs s) L (L + 1), _, fun r hr => rs_vld hm r (hsub.subset hr), fun h0 => rs_zero hm (hsub.subset h0), by omega, fun r hr => rs_vld hm r (List.mem_of_mem_take (List.mem_of_mem_drop hr)), ?_, h.2 (by omega), fun e => ?_, fun e => ?_, fun _ => ⟨by omega, lft_c10 hx h10, ?_⟩⟩
    · unfold Rw.tkn
      rw [List.length_drop, List.length_take]
      omega
    · rcases hkey with rfl | rfl <;> (rcases e with e | e <;> cases e)
    · rcases hkey with rfl | rfl <;> cases e
    · unfold Rw.tkn
      rw [List.length_drop, List.length_take]
      omega
end Go.Proofs.YtilkogohiealhaaDoor
namespace Go.Proofs.YtilkogohiealhaaDoor
open Go Go.RowKit

theorem chgT_inj {a d x E a' d' x' E' : Int} {p tk p' tk' : ByteArray} (h : chgT a d p x tk E = chgT a' d' p' x' tk' E') : a = a' ∧ d = d' ∧ p = p' ∧ x = x' ∧ tk = tk' ∧ E = E' := by
  unfold chgT at h
  simp at h
  exact ⟨h.1.1, h.1.2.1, h.1.2.2.1, h.1.2.2.2.1, h.1.2.2.2.2, h.2⟩
set_option maxRecDepth 100000 in
theorem rlen_any (s : ByteArray) (w : World) (h : s.size ≤ 1000000) : Calls Tryd.prog 30 #[.string s] w fun e w' => e = .returned (.int .i64 (rs s).length) ∧ Kept (fun _ => False) w w' := by
  obtain ⟨cap, w2, hcap, hcv, hk2, hlt, hR⟩ := conv_rs s w (by omega)
  generalize rs s = t at *
  have HK := Lib.hid hk2
  clear hk2 hR
  go_enter Tryd.func30, Tryd.ntmps30
  go_wp2
  go_ret
  exact ⟨rfl, HK.out⟩
theorem infoStr : (Tryd.prog.info? 9).map (fun i => (i.zero, i.size, i.bytes)) = some (some (.string ⟨#[]⟩), 1, 16) := by kernel_rfl
theorem owned_slice {w : World} {base : Nat} {e : TypeId} {v : Value} {n : Nat} {xs : List Value} (h : w.ownsRow base e 1 v n xs) : ∃ A c, v = .slice A n c := by
  rcases h.2 with ⟨rfl, rfl⟩ | ⟨g, cap, cur, rfl, _⟩
  · exact ⟨none, 0, rfl⟩
  · exact ⟨_, _, rfl⟩
theorem one_new (w : World) (v : Value) (ty : TypeId) : ∀ j u, ([v] : List Value)[j]? = some u → (w.alloc (.cells #[v] ty)).cell? ((⟨w.heap.size, 0, none⟩ : Addr).add j) = some u := by
  intro j u hj
  match j, hj with
  | 0, hj =>
    injection hj with hj
    subst hj
    rw [addr_add, cell_of_row _ _ _ _ _ _ (heap_alloc_new w _)]
    rfl
  | _ + 1, hj => cases hj
set_option maxRecDepth 100000 in
set_option maxHeartbeats 1000000 in
theorem rrows_any (s : ByteArray) (w : World) (hs : s.size ≤ 100000) :
    Calls Tryd.prog 11 #[.string s] w fun e w' => (∃ A c, e = .returned (.slice A (s.data.toList.count 10 + 1 : Nat) c)) ∧ Kept (fun _ => False) w w' := by
  obtain ⟨i0, hi, hz0, hz1, hz2⟩ := info_parts infoStr
  have hcl : ∀ l : List UInt8, l.count 10 ≤ l.length := fun l => List.count_le_length
  have hlen : s.data.toList.length = s.size := (Lib.size_eq s).symm
  have HLEN := Lib.hid hlen
  clear hlen
  obtain ⟨CN, hCN⟩ : ∃ CN, s.data.toList.count 10 = CN := ⟨_, rfl⟩
  rw [hCN]
  have HCNT := Lib.hid hCN
  clear hCN
  go_enter Tryd.func11, Tryd.ntmps11
  go_wp2
  go_loopw [3, 4, 5] (fun lv fv v wr => ∃ (i f : Nat) (xs : List Value), i ≤ s.size ∧ f ≤ i ∧ v = .int .i64 i ∧ fv = .int .i64 f ∧ wr.ownsRow w.heap.size 9 1 lv ((s.data.toList.take i).count 10) xs ∧ Kept (fun _ => False) w wr) (fun _ _ v _ => s.size - (intOf v).toNat)
  case atStart => exact ⟨0, 0, [], Nat.zero_le _, Nat.le_refl _, rfl, rfl, World.ownsRow_nil _ _ _ _, Kept.refl _ _⟩
  case round =>
    obtain ⟨i, f, xs, hi1, hf, rfl, rfl, hown, hkw⟩ := hrel
    have HO := Lib.hid hown
    have HKW := Lib.hid hkw
    have HSZ : Hid (w.heap.size ≤ wr.heap.size) := hkw.size
    have HCN : Hid ((s.data.toList.take i).count 10 ≤ 100000) := by have := hcl (s.data.toList.take i); rw [List.length_take] at this; show _ ≤ _; have := HLEN.out; omega
    clear hown hkw
    have hfi : (f : Int) ≤ (i : Int) := by omega
    have his : (i : Int) ≤ (s.size : Int) := by omega
    have hf0 : (0 : Int) ≤ (f : Int) := by omega
    by_cases hlt : i < s.size
    · obtain ⟨b, hb⟩ : ∃ b, s[i]'hlt = b := ⟨_, rfl⟩
      have hlist : Hid (s.data.toList[i]? = some b) := by rw [← hb]; exact byte_at s i hlt
      have hr := UInt8.toNat_lt b
      have HTK : Hid ((s.data.toList.take (i + 1)).count 10 = (s.data.toList.take i).count 10 + (if b = 10 then 1 else 0)) := by
        show _ = _
        rw [List.take_add_one, hlist.out, List.count_append]
        congr 1
        by_cases h : b = 10
        · subst h; rfl
        · rw [if_neg h]
          simp [h]
      by_cases h10 : b = 10
      · have e3 : ((b.toNat : Int) == 10) = true := by rw [h10]; rfl
        have HTK2 : Hid ((s.data.toList.take i).count 10 + 1 = (s.data.toList.take (i + 1)).count 10) := by show _ = _; rw [HTK.out, if_pos h10]
        clear h10 HTK
        generalize (s.data.toList.take i).count 10 = n at *
        go_wp2_with (at_builtin; refine wpList_append_own _ rfl _ _ 22 rfl w.heap.size 9 i0 (.string ⟨#[]⟩) 1 16 Tryd.underlying22 hi hz0 hz1 hz2 rfl (by decide) _ _ _ rfl (HO.out.alloc _) ⟨_, 0, none⟩ 1 1 [.string (s.extract f i)] rfl rfl ?c1 ?c2 ?c3 ?c4 ?c5 ?_)
        case c1 => exact one_new _ _ _
        case c2 => intro u hu; simp at hu; subst hu; rfl
        case c3 => have := HCN.out; unfold maxLen; omega
        case c4 => have := HCN.out; omega
        case c5 => have := HSZ.out; simp; omega
        intro v' w2 hown' hgrow _
        have hK2 := Lib.hid (Kept.grew (HKW.out.alloc (.cells #[.string (s.extract f i)] 9)) hgrow (fun q hq => (HO.out.lt q hq).1))
        rw [HTK2.out] at hown'
        have HO2 := Lib.hid hown'
        clear hown' hgrow
        go_wp2
        go_roundw
        case rel => exact ⟨i + 1, i + 1, _, by omega, Nat.le_refl _, by go_num, by go_num, HO2.out, hK2.out⟩
        case measure => simp [intOf]; omega
      · have hbn : b.toNat ≠ 10 := fun e => h10 (UInt8.toNat_inj.1 (by rw [e]; rfl))
        have e3 : ((b.toNat : Int) == 10) = false := by rw [beq_eq_false_iff_ne]; omega
        have HTK2 : Hid ((s.data.toList.take i).count 10 = (s.data.toList.take (i + 1)).count 10) := by show _ = _; rw [HTK.out, if_neg h10]; rfl
        clear h10 HTK hbn
        go_wp2
        go_roundw
        case rel => exact ⟨i + 1, f, xs, by omega, by omega, by go_num, rfl, by rw [← HTK2.out]; exact HO.out, HKW.out⟩
        case measure => simp [intOf]; omega
    · obtain rfl : i = s.size := by omega
      have htk : s.data.toList.take s.size = s.data.toList := List.take_of_length_le (by have := HLEN.out; omega)
      rw [htk, HCNT.out] at HO HCN
      have b1 : decide (s.size < s.size) = false := by simp
      clear htk
      go_wp2_with (at_builtin; refine wpList_append_own _ rfl _ _ 22 rfl w.heap.size 9 i0 (.string ⟨#[]⟩) 1 16 Tryd.underlying22 hi hz0 hz1 hz2 rfl (by decide) _ _ _ rfl (HO.out.alloc _) ⟨_, 0, none⟩ 1 1 [.string (s.extract f s.size)] rfl rfl ?c1 ?c2 ?c3 ?c4 ?c5 ?_)
      case c1 => exact one_new _ _ _
      case c2 => intro u hu; simp at hu; subst hu; rfl
      case c3 => have := HCN.out; unfold maxLen; omega
      case c4 => have := HCN.out; omega
      case c5 => have := HSZ.out; simp; omega
      intro v' w2 hown' hgrow _
      have hK2 := Lib.hid (Kept.grew (HKW.out.alloc (.cells #[.string (s.extract f s.size)] 9)) hgrow (fun q hq => (HO.out.lt q hq).1))
      obtain ⟨A, c, rfl⟩ := owned_slice hown'
      clear hown' hgrow
      go_wp2
      go_ret
      exact ⟨⟨A, c, rfl⟩, hK2.out⟩
set_option maxRecDepth 100000 in
set_option maxHeartbeats 1000000 in
theorem rmay4_t (s : ByteArray) (a d : Nat) (x : List Int) (w : World) (hT : Tabs w) (hm : mayB s = true) (had : a + d ≤ (rs s).length) (hv : Vld x) (h0 : (0 : Int) ∉ x) (hl : x.length ≤ 100000) :
    Calls Tryd.prog 10 #[.string s, patV a d (runesBytes x)] w fun e w' => e = .returned (.bool true) ∧ Kept (fun _ => False) w w' := by
  have hsz := txt_size4 x
  have hms := mayB_size hm
  have hka : Kept (fun _ => False) w (w.alloc (patO a d (runesBytes x))) := (Kept.refl _ w).alloc _
  have HG0 : Hid ((w.alloc (patO a d (runesBytes x))).heap[w.heap.size]? = some (patO a d (runesBytes x))) := heap_alloc_new w _
  have HT0 := Lib.hid (hT.kept hka id id)
  have cL := rlen_any s (w.alloc (patO a d (runesBytes x))) (by omega)
  have cM := fun W hW => rmay_any s W (by omega) hW
  rw [hm] at cM
  have cV := fun W hW => valid_any (runesBytes x) W (by omega) hW
  have hval : Lib.validD (runesBytes x).data.toList = true := by rw [txt_list]; exact Utf.valid_bytes x hv
  rw [hval] at cV
  have hnz : ∀ b ∈ (runesBytes x).data.toList, b ≠ 0 := by rw [txt_list]; exact bytes_zero hv h0
  have HNZ := Lib.hid hnz
  have HLT : Hid ((rs s).length ≤ 100000000) := by have := rs_len s; show _ ≤ _; omega
  generalize rs s = t at *
  generalize runesBytes x = PI at *
  have HCM := Lib.hid cM
  have HCV := Lib.hid cV
  have HKA := Lib.hid hka
  obtain ⟨g, hg⟩ : ∃ g, w.heap.size = g := ⟨_, rfl⟩
  have HGS := Lib.hid hg
  rw [hg] at HG0
  clear hg hka hT hm hval hnz cM cV hv h0
  have n1 := fun w => znum_t (x := (a : Int)) (m := (t.length : Int)) (by omega) w
  have n2 := fun w => znum_t (x := (d : Int)) (m := (t.length : Int) - (a : Int)) (by omega) w
  go_enter Tryd.func10, Tryd.ntmps10
  go_upto_region 1 with fail
  simp only [HGS.out]
  generalize w.alloc (patO a d PI) = wa at *
  go_wp2_with fail
  refine cL.mono ?_
  rintro e w1 ⟨rfl, hk1⟩
  have HK1 := Lib.hid (HKA.out.trans hk1)
  have HT1 := Lib.hid (HT0.out.kept hk1 id id)
  have HG1 := Lib.hid ((hk1.block g (heap_lt HG0.out) id).trans HG0.out)
  clear hk1 cL
  go_wp2_with fail
  refine (HCM.out w1 HT1.out).mono ?_
  rintro e w2 ⟨rfl, hk2⟩
  have HK2 := Lib.hid (HK1.out.trans hk2)
  have HT2 := Lib.hid (HT1.out.kept hk2 id id)
  have HG2 := Lib.hid ((hk2.block g (heap_lt HG1.out) id).trans HG1.out)
  clear hk2
  obtain ⟨c0, c1, c2⟩ := pat_facts' HG2.out
  have hw1 : IntKind.i64.wrap ((t.length : Int) - (a : Int)) = (t.length : Int) - (a : Int) := by
    have : t.length ≤ 100000000 := HLT.out
    exact IntWalk.i64_in _ ⟨by omega, by omega⟩
  go_wp2_with (first
    | (go_at_call 31; refine (n1 _).mono ?_; rintro e w' ⟨rfl, hw⟩; have hw2 := hw.symm; subst hw2; clear n1)
    | (go_at_call 31; refine (n2 _).mono ?_; rintro e w' ⟨rfl, hw⟩; have hw2 := hw.symm; subst hw2; clear n2)
    | (go_at_call 15; refine (HCV.out _ HT2.out).mono ?_; rintro e w3 ⟨rfl, hk3⟩; have HK3 := Lib.hid (HK2.out.trans hk3); have HG3 := Lib.hid ((hk3.block g (heap_lt HG2.out) id).trans HG2.out); clear hk3))
  clear c0 c1 c2 hw1
  obtain ⟨c0, c1, c2⟩ := pat_facts' HG3.out
  go_loop [6] (fun v => ∃ k : Nat, k ≤ PI.size ∧ v = .int .i64 k) (fun v => PI.size - (intOf v).toNat)
  case atStart => exact ⟨0, Nat.zero_le _, rfl⟩
  case round =>
    obtain ⟨k, hk, rfl⟩ := hrel
    by_cases hlt : k < PI.size
    · obtain ⟨b, hb⟩ : ∃ b, PI[k]'hlt = b := ⟨_, rfl⟩
      have hne : b ≠ 0 := HNZ.out b (List.mem_of_getElem? (by rw [← hb]; exact byte_at PI k hlt))
      have hbn : b.toNat ≠ 0 := fun e => hne (UInt8.toNat_inj.1 (by rw [e]; rfl))
      have e3 : ((b.toNat : Int) == 0) = false := by rw [beq_eq_false_iff_ne]; omega
      clear hne hbn
      go_wp2
      go_round
      case rel => exact ⟨k + 1, by omega, by go_num⟩
      case measure => simp [intOf]; omega
    · obtain rfl : k = PI.size := by omega
      have b1 : decide (PI.size < PI.size) = false := by simp
      go_wp2
      go_ret
      exact ⟨rfl, HK3.out⟩
end Go.Proofs.YtilkogohiealhaaDoor
