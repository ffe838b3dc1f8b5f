/-
  OPS, PLAIN: which may be, their bytes, what bytes are.
-/
import Derived.Lib.Hide
set_option linter.unusedVariables false
namespace Go.Proofs.YtlminkbaafjloaaDoor.Cd

/-- An op. -/
structure OpP where
  kd : Int
  t : Int
  si : Int
  t0 : Int
  s0 : Int
  rn : Int
  st : Int
  nn : Int
  seen : List Int
theorem OpP.ext {a b : OpP} (h1 : a.kd = b.kd) (h2 : a.t = b.t) (h3 : a.si = b.si) (h4 : a.t0 = b.t0) (h5 : a.s0 = b.s0) (h6 : a.rn = b.rn) (h7 : a.st = b.st) (h8 : a.nn = b.nn) (h9 : a.seen = b.seen) : a = b := by
  cases a; cases b; simp only at *; subst h1 h2 h3 h4 h5 h6 h7 h8 h9; rfl
def ruOk (r : Int) : Prop := 1 ≤ r ∧ r ≤ 1114111 ∧ ¬ (55296 ≤ r ∧ r ≤ 57343)
def idOk (t s : Int) : Prop := (1 ≤ t ∧ t ≤ 10000) ∧ 0 ≤ s ∧ s ≤ 4
def lessP (t s t' s' : Int) : Prop := t < t' ∨ t = t' ∧ s < s'
def vecOk (l : List Int) : Prop := l.length = 4 ∧ ∀ x ∈ l, 0 ≤ x ∧ x ≤ 2000
instance (r : Int) : Decidable (ruOk r) := by unfold ruOk; infer_instance
instance (t s : Int) : Decidable (idOk t s) := by unfold idOk; infer_instance
instance (t s t' s' : Int) : Decidable (lessP t s t' s') := by unfold lessP; infer_instance
instance (l : List Int) : Decidable (vecOk l) := by unfold vecOk; infer_instance
/-- What stands in an op is its kind's. -/
def kindOk (o : OpP) : Prop := (o.kd = 1 ∧ ruOk o.rn ∧ ((o.t0 = 0 ∧ o.s0 = 0) ∨ idOk o.t0 o.s0 ∧ lessP o.t0 o.s0 o.t o.si)) ∨ (o.kd = 2 ∧ o.rn = 0 ∧ o.t0 = 0 ∧ o.s0 = 0)
/-- An op that may be. -/
def opOk (o : OpP) : Prop := idOk o.t o.si ∧ (1 ≤ o.st ∧ o.st ≤ 4) ∧ (1 ≤ o.nn ∧ o.nn ≤ 2000) ∧ vecOk o.seen ∧ kindOk o
instance (o : OpP) : Decidable (kindOk o) := by unfold kindOk; infer_instance
instance (o : OpP) : Decidable (opOk o) := by unfold opOk; infer_instance

/-- A number's byte, so many ahead of the last. -/
def by1 (n : Int) (k : Nat) : UInt8 := UInt8.ofNat ((n / (256 : Int) ^ k) % 256).toNat
/-- A number's bytes, the highest first. -/
def be : Nat → Int → List UInt8
  | 0, _ => []
  | w + 1, n => by1 n w :: be w n
/-- The number that bytes are. -/
def de (l : List UInt8) : Int := l.foldl (fun n b => n * 256 + b.toNat) 0
theorem be_len : ∀ (w : Nat) (n : Int), (be w n).length = w
  | 0, _ => rfl
  | w + 1, n => by simp [be, be_len w]
theorem by1_toNat (n : Int) (k : Nat) : ((by1 n k).toNat : Int) = (n / (256 : Int) ^ k) % 256 := by
  unfold by1
  rw [UInt8.toNat_ofNat', Nat.mod_eq_of_lt (by omega)]
  omega
theorem de_snoc (l : List UInt8) (b : UInt8) : de (l ++ [b]) = de l * 256 + b.toNat := by simp [de]
theorem u8_of {a b : UInt8} (h : (a.toNat : Int) = b.toNat) : a = b := UInt8.toNat_inj.1 (by omega)
theorem u8_lt (a : UInt8) : (a.toNat : Int) < 256 := by have := a.toNat_lt; omega
theorem de_be1 {n : Int} (h : 0 ≤ n ∧ n < 256) : de (be 1 n) = n := by
  simp only [be, de, List.foldl_cons, List.foldl_nil, by1_toNat, Int.pow_zero, Int.ediv_one]
  omega
theorem de_be2 {n : Int} (h : 0 ≤ n ∧ n < 65536) : de (be 2 n) = n := by
  simp only [be, de, List.foldl_cons, List.foldl_nil, by1_toNat, Int.pow_zero, Int.ediv_one, show (256 : Int) ^ 1 = 256 from rfl]
  omega
theorem de_be3 {n : Int} (h : 0 ≤ n ∧ n < 16777216) : de (be 3 n) = n := by
  simp only [be, de, List.foldl_cons, List.foldl_nil, by1_toNat, Int.pow_zero, Int.ediv_one, show (256 : Int) ^ 1 = 256 from rfl, show (256 : Int) ^ 2 = 65536 from rfl]
  omega
theorem be_de1 (a : UInt8) : be 1 (de [a]) = [a] := by
  have h1 := u8_lt a
  have e1 : by1 (de [a]) 0 = a := u8_of (by
    simp only [by1_toNat, de, List.foldl_cons, List.foldl_nil, Int.pow_zero, Int.ediv_one]; omega)
  simp only [be, e1]
theorem be_de2 (a b : UInt8) : be 2 (de [a, b]) = [a, b] := by
  have h1 := u8_lt a
  have h2 := u8_lt b
  have e1 : by1 (de [a, b]) 1 = a := u8_of (by
    simp only [by1_toNat, de, List.foldl_cons, List.foldl_nil, show (256 : Int) ^ 1 = 256 from rfl]; omega)
  have e2 : by1 (de [a, b]) 0 = b := u8_of (by
    simp only [by1_toNat, de, List.foldl_cons, List.foldl_nil, Int.pow_zero, Int.ediv_one]; omega)
  simp only [be, e1, e2]
theorem be_de3 (a b c : UInt8) : be 3 (de [a, b, c]) = [a, b, c] := by
  have h1 := u8_lt a
  have h2 := u8_lt b
  have h3 := u8_lt c
  have e1 : by1 (de [a, b, c]) 2 = a := u8_of (by
    simp only [by1_toNat, de, List.foldl_cons, List.foldl_nil, show (256 : Int) ^ 2 = 65536 from rfl]; omega)
  have e2 : by1 (de [a, b, c]) 1 = b := u8_of (by
    simp only [by1_toNat, de, List.foldl_cons, List.foldl_nil, show (256 : Int) ^ 1 = 256 from rfl]; omega)
  have e3 : by1 (de [a, b, c]) 0 = c := u8_of (by
    simp only [by1_toNat, de, List.foldl_cons, List.foldl_nil, Int.pow_zero, Int.ediv_one]; omega)
  simp only [be, e1, e2, e3]
/-- An op's bytes ahead of what was seen. -/
def encH (o : OpP) : List UInt8 := be 1 o.kd ++ be 2 o.t ++ be 1 o.si ++ be 2 o.t0 ++ be 1 o.s0 ++ be 3 o.rn ++ be 1 o.st ++ be 2 o.nn
def encS (l : List Int) : List UInt8 := l.flatMap (be 2)
/-- An op's bytes. -/
def enc (o : OpP) : List UInt8 := encH o ++ encS o.seen
/-- The op that bytes are. -/
def dec (s : List UInt8) : OpP :=
  ⟨de (s.take 1), de ((s.drop 1).take 2), de ((s.drop 3).take 1), de ((s.drop 4).take 2), de ((s.drop 6).take 1), de ((s.drop 7).take 3), de ((s.drop 10).take 1), de ((s.drop 11).take 2),
    [de ((s.drop 13).take 2), de ((s.drop 15).take 2), de ((s.drop 17).take 2), de ((s.drop 19).take 2)]⟩
theorem encH_len (o : OpP) : (encH o).length = 13 := by simp [encH, be_len]
theorem encS_len : ∀ l : List Int, (encS l).length = 2 * l.length
  | [] => rfl
  | x :: l => by
    have := encS_len l
    unfold encS at *
    rw [List.flatMap_cons, List.length_append, be_len, this, List.length_cons]
    omega
theorem enc_len {o : OpP} (h : o.seen.length = 4) : (enc o).length = 21 := by
  rw [enc, List.length_append, encH_len, encS_len, h]
theorem encS_snoc (l : List Int) (x : Int) : encS (l ++ [x]) = encS l ++ be 2 x := by simp [encS]
/-- Whatever bytes are, they are its own. -/
theorem enc_dec {s : List UInt8} (h : s.length = 21) : enc (dec s) = s := by
  match s, h with
  | [b0, b1, b2, b3, b4, b5, b6, b7, b8, b9, b10, b11, b12, b13, b14, b15, b16, b17, b18, b19, b20], _ =>
    simp only [dec, enc, encH, encS, List.take_succ_cons, List.take_zero, List.drop_succ_cons, List.drop_zero, List.flatMap_cons, List.flatMap_nil, be_de1, be_de2, be_de3]
    rfl
/-- An op's bytes are it. -/
theorem dec_enc {o : OpP} (h : opOk o) : dec (enc o) = o := by
  obtain ⟨⟨ht, hs⟩, hst, hnn, ⟨hl, hx⟩, hk⟩ := h
  have hk2 : (0 ≤ o.kd ∧ o.kd < 256) ∧ (0 ≤ o.t0 ∧ o.t0 < 65536) ∧ (0 ≤ o.s0 ∧ o.s0 < 256) ∧ (0 ≤ o.rn ∧ o.rn < 16777216) := by
    rcases hk with ⟨e, ⟨r1, r2, _⟩, ⟨e1, e2⟩ | ⟨⟨i1, i2⟩, _⟩⟩ | ⟨e, e1, e2, e3⟩ <;> omega
  obtain ⟨k1, k2, k3, k4⟩ := hk2
  obtain ⟨kd, t, si, t0, s0, rn, st, nn, seen⟩ := o
  simp only at *
  match seen, hl with
  | [x0, x1, x2, x3], _ =>
    have q0 := hx x0 (by simp)
    have q1 := hx x1 (by simp)
    have q2 := hx x2 (by simp)
    have q3 := hx x3 (by simp)
    have d1 : ∀ n, de [by1 n 0] = de (be 1 n) := fun n => rfl
    have d2 : ∀ n, de [by1 n 1, by1 n 0] = de (be 2 n) := fun n => rfl
    have d3 : ∀ n, de [by1 n 2, by1 n 1, by1 n 0] = de (be 3 n) := fun n => rfl
    simp only [dec, enc, encH, encS, be, List.flatMap_cons, List.flatMap_nil, List.cons_append, List.nil_append, List.append_nil, List.take_succ_cons, List.take_zero, List.drop_succ_cons, List.drop_zero]
    simp only [d1, d2, d3]
    rw [de_be1 k1, de_be2 (by omega), de_be1 (by omega), de_be2 k2, de_be1 k3, de_be3 k4, de_be1 (by omega), de_be2 (by omega), de_be2 (by omega), de_be2 (by omega), de_be2 (by omega), de_be2 (by omega)]
/-- As bytes: a string. -/
def encB (o : OpP) : ByteArray := ⟨(enc o).toArray⟩
theorem encB_size {o : OpP} (h : o.seen.length = 4) : (encB o).size = 21 := by
  have := enc_len h
  simp [encB, ByteArray.size, this]
theorem encB_list (o : OpP) : (encB o).data.toList = enc o := by simp [encB]
theorem ba_ext {a b : ByteArray} (h : a.data.toList = b.data.toList) : a = b := by
  cases a; cases b
  simp only [ByteArray.mk.injEq]
  exact Array.toList_inj.1 h
/-- What bytes are, if they are any op's. -/
def takeO (s : ByteArray) : Option OpP := if s.size = 21 ∧ opOk (dec s.data.toList) then some (dec s.data.toList) else none
theorem takeO_enc {o : OpP} (h : opOk o) : takeO (encB o) = some o := by
  unfold takeO
  rw [encB_list, dec_enc h, encB_size h.2.2.2.1.1, if_pos ⟨rfl, h⟩]
theorem takeO_some {s : ByteArray} {o : OpP} (h : takeO s = some o) : opOk o ∧ s = encB o := by
  unfold takeO at h
  split at h
  · next hc =>
    injection h with h
    subst h
    exact ⟨hc.2, ba_ext (by rw [encB_list, enc_dec (by rw [Array.length_toList]; exact hc.1)])⟩
  · cases h
theorem takeO_short {s : ByteArray} (h : s.size ≠ 21) : takeO s = none := by
  unfold takeO
  rw [if_neg (fun hc => h hc.1)]
end Go.Proofs.YtlminkbaafjloaaDoor.Cd
