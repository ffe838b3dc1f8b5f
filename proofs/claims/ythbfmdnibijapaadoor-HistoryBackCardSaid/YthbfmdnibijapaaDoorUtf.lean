/-
  PLAIN LAWS ON UTF-8: the runes of a list of bytes (the model's own decoder, step by step), the bytes of a list of runes (the model's own encoder), and that they undo each other where the bytes are valid. No program is named here.
-/
import Derived.Lib.ValidU
import Derived.Lib.ValidLaws
import Derived.Lib.TrimUEq
import Derived.Laws.Cover4
import Derived.Laws.IdiomStrings
set_option linter.unusedVariables false
namespace Go.Proofs.YthbfmdnibijapaaDoor.Utf
open Go Go.Lib

/-- The runes of bytes, at most n of them. -/
def runesN : Nat → List UInt8 → List Int
  | 0, _ => []
  | n + 1, l => if l = [] then [] else ((decodeL l).1 : Int) :: runesN n (l.drop (decodeL l).2)
/-- The runes of bytes. -/
def runes (l : List UInt8) : List Int := runesN l.length l
/-- A rune's bytes. -/
def enc (n : Int) : List UInt8 := (Utf8.encode n).data.toList
/-- The bytes of runes. -/
def bytes : List Int → List UInt8
  | [] => []
  | n :: r => enc n ++ bytes r

theorem runesN_nil : ∀ n, runesN n [] = []
  | 0 => rfl
  | _ + 1 => by simp [runesN]
theorem runesN_fuel : ∀ (n m : Nat) (l : List UInt8), l.length ≤ n → l.length ≤ m → runesN n l = runesN m l
  | 0, m, l, hn, _ => by
    have : l = [] := List.eq_nil_of_length_eq_zero (by omega)
    subst this
    rw [runesN_nil, runesN_nil]
  | n + 1, 0, l, _, hm => by
    have : l = [] := List.eq_nil_of_length_eq_zero (by omega)
    subst this
    rw [runesN_nil, runesN_nil]
  | n + 1, m + 1, l, hn, hm => by
    unfold runesN
    by_cases hne : l = []
    · simp [hne]
    · have hw := decodeL_width l
      have hl : 0 < l.length := List.length_pos_iff.2 hne
      rw [if_neg hne, if_neg hne, runesN_fuel n m (l.drop (decodeL l).2) (by rw [List.length_drop]; omega) (by rw [List.length_drop]; omega)]
theorem runes_nil : runes [] = [] := rfl
theorem runes_step (l : List UInt8) (hne : l ≠ []) : runes l = ((decodeL l).1 : Int) :: runes (l.drop (decodeL l).2) := by
  have hl : 0 < l.length := List.length_pos_iff.2 hne
  have hw := decodeL_width l
  obtain ⟨n, hn⟩ : ∃ n, l.length = n + 1 := ⟨l.length - 1, by omega⟩
  unfold runes
  rw [hn]
  show (if l = [] then [] else _) = _
  rw [if_neg hne, runesN_fuel n (l.drop (decodeL l).2).length _ (by rw [List.length_drop]; omega) (Nat.le_refl _)]
theorem runes_length_le : ∀ (n : Nat) (l : List UInt8), l.length ≤ n → (runes l).length ≤ l.length
  | 0, l, h => by
    have : l = [] := List.eq_nil_of_length_eq_zero (by omega)
    subst this
    simp [runes_nil]
  | n + 1, l, h => by
    by_cases hne : l = []
    · subst hne; simp [runes_nil]
    · have hw := decodeL_width l
      have hl : 0 < l.length := List.length_pos_iff.2 hne
      have ih := runes_length_le n (l.drop (decodeL l).2) (by rw [List.length_drop]; omega)
      rw [runes_step l hne, List.length_cons]
      rw [List.length_drop] at ih
      omega
theorem runes_length (l : List UInt8) : (runes l).length ≤ l.length := runes_length_le l.length l (Nat.le_refl _)

/-- The model's own conversion of a string to runes. -/
theorem runesFrom_eq (s : ByteArray) : ∀ (bound i : Nat) (acc : Array Value), s.size ≤ i + bound →
    Conv.runesFrom s bound i acc = acc ++ ((runes (s.data.toList.drop i)).map (Value.int .i32)).toArray
  | 0, i, acc, h => by
    have hd : s.data.toList.drop i = [] := List.drop_eq_nil_of_le (by have := Lib.size_eq s; omega)
    simp [Conv.runesFrom, hd, runes_nil]
  | bound + 1, i, acc, h => by
    unfold Conv.runesFrom
    have hs := Lib.size_eq s
    by_cases hi : i < s.size
    · have hne : s.data.toList.drop i ≠ [] := by
        intro e
        have := congrArg List.length e
        rw [List.length_drop] at this
        simp at this
        have hz : s.data.size = s.size := rfl
        omega
      have hw := decodeL_width (s.data.toList.drop i)
      rw [decodeL_drop] at hw
      rw [if_pos hi]
      show Conv.runesFrom s bound (i + (Utf8.decode s i).2) (acc.push (Value.int .i32 (Int.ofNat (Utf8.decode s i).1))) = _
      rw [runesFrom_eq s bound (i + (Utf8.decode s i).2) _ (by omega), runes_step _ hne, decodeL_drop, List.drop_drop]
      simp
    · have hd : s.data.toList.drop i = [] := List.drop_eq_nil_of_le (by omega)
      rw [if_neg hi, hd]
      simp [runes_nil]
theorem convRunes_eq (s : ByteArray) : Conv.runesFrom s s.size 0 #[] = ((runes s.data.toList).map (Value.int .i32)).toArray := by
  rw [runesFrom_eq s s.size 0 #[] (by omega)]
  simp

theorem foldl_bytes (ns : List Int) : ∀ s : ByteArray, (ns.foldl (fun r n => r ++ Utf8.encode n) s).data.toList = s.data.toList ++ bytes ns := by
  induction ns with
  | nil => intro s; simp [bytes]
  | cons n ns ih => intro s; rw [List.foldl_cons, ih]; simp [bytes, enc]
/-- The model's own conversion of runes to a string. -/
theorem runesBytes_eq (ns : List Int) : (runesBytes ns).data.toList = bytes ns := by
  unfold runesBytes
  rw [foldl_bytes]
  simp
theorem bytes_append (a b : List Int) : bytes (a ++ b) = bytes a ++ bytes b := by
  induction a with
  | nil => rfl
  | cons n a ih => simp [bytes, ih]

theorem toNat_ofNat {n : Nat} (h : n < 256) : (UInt8.ofNat n).toNat = n := by simp only [UInt8.toNat_ofNat']; omega

set_option maxHeartbeats 1000000 in
set_option maxRecDepth 100000 in
/-- At the head of bytes stands the rune that was encoded there. -/
theorem decodeL_enc (n : Int) (h : Utf8.valid n = true) (t : List UInt8) : decodeL (enc n ++ t) = (n.toNat, (enc n).length) := by
  have hv : (0 ≤ n ∧ n < 55296) ∨ (57344 ≤ n ∧ n ≤ 1114111) := by simpa [Utf8.valid] using h
  obtain ⟨c, rfl⟩ := Int.eq_ofNat_of_zero_le (show 0 ≤ n by omega)
  rw [decodeL_N]
  unfold enc Utf8.encode
  simp only [h, if_true, Int.toNat_natCast]
  by_cases h1 : c < 128
  · rw [if_pos h1]
    have e0 : (UInt8.ofNat c).toNat = c := toNat_ofNat (by omega)
    simp only [List.cons_append, List.nil_append, List.length_cons, List.getD_cons_zero, List.getD_cons_succ]
    rw [e0]
    unfold decodeN
    rw [if_pos h1]
    rfl
  · rw [if_neg h1]
    by_cases h2 : c < 2048
    · rw [if_pos h2]
      simp only [List.cons_append, List.nil_append, List.length_cons, List.getD_cons_zero, List.getD_cons_succ]
      have e0 : (UInt8.ofNat (192 + c / 64)).toNat = 192 + c / 64 := toNat_ofNat (by omega)
      have e1 : (UInt8.ofNat (128 + c % 64)).toNat = 128 + c % 64 := toNat_ofNat (by omega)
      rw [e0, e1]
      unfold decodeN
      rw [if_neg (by omega), if_pos ⟨by omega, by omega, by omega⟩, if_pos (by omega)]
      exact Prod.ext (by show _ = c; omega) rfl
    · rw [if_neg h2]
      by_cases h3 : c < 65536
      · rw [if_pos h3]
        simp only [List.cons_append, List.nil_append, List.length_cons, List.getD_cons_zero, List.getD_cons_succ]
        have e0 : (UInt8.ofNat (224 + c / 4096)).toNat = 224 + c / 4096 := toNat_ofNat (by omega)
        have e1 : (UInt8.ofNat (128 + c / 64 % 64)).toNat = 128 + c / 64 % 64 := toNat_ofNat (by omega)
        have e2 : (UInt8.ofNat (128 + c % 64)).toNat = 128 + c % 64 := toNat_ofNat (by omega)
        rw [e0, e1, e2]
        unfold decodeN
        rw [if_neg (by omega), if_neg (by omega), if_pos ⟨by omega, ⟨by omega, by omega⟩, by omega, by omega⟩, if_pos (by omega)]
        exact Prod.ext (by show _ = c; omega) rfl
      · rw [if_neg h3]
        simp only [List.cons_append, List.nil_append, List.length_cons, List.getD_cons_zero, List.getD_cons_succ]
        have e0 : (UInt8.ofNat (240 + c / 262144)).toNat = 240 + c / 262144 := toNat_ofNat (by omega)
        have e1 : (UInt8.ofNat (128 + c / 4096 % 64)).toNat = 128 + c / 4096 % 64 := toNat_ofNat (by omega)
        have e2 : (UInt8.ofNat (128 + c / 64 % 64)).toNat = 128 + c / 64 % 64 := toNat_ofNat (by omega)
        have e3 : (UInt8.ofNat (128 + c % 64)).toNat = 128 + c % 64 := toNat_ofNat (by omega)
        rw [e0, e1, e2, e3]
        unfold decodeN
        rw [if_neg (by omega), if_neg (by omega), if_neg (by omega), if_pos ⟨by omega, ⟨by omega, by omega⟩, ⟨by omega, by omega⟩, by omega, by omega⟩, if_pos (by omega)]
        exact Prod.ext (by show _ = c; omega) rfl
theorem enc_length (n : Int) : 1 ≤ (enc n).length ∧ (enc n).length ≤ 4 := by
  unfold enc Utf8.encode
  simp only
  repeat' split
  all_goals simp
theorem enc_ne (n : Int) (t : List UInt8) : enc n ++ t ≠ [] := by
  have := enc_length n
  intro e
  have e := congrArg List.length e
  rw [List.length_append, List.length_nil] at e
  omega
/-- The runes of what was encoded. -/
theorem runes_enc (n : Int) (h : Utf8.valid n = true) (t : List UInt8) : runes (enc n ++ t) = n :: runes t := by
  have h0 : 0 ≤ n := by
    have hv : (0 ≤ n ∧ n < 55296) ∨ (57344 ≤ n ∧ n ≤ 1114111) := by simpa [Utf8.valid] using h
    omega
  rw [runes_step _ (enc_ne n t), decodeL_enc n h t]
  simp
  omega
theorem runes_bytes (ns : List Int) (h : ∀ n ∈ ns, Utf8.valid n = true) : runes (bytes ns) = ns := by
  induction ns with
  | nil => rfl
  | cons n ns ih =>
    show runes (enc n ++ bytes ns) = _
    rw [runes_enc n (h n (by simp)), ih (fun m hm => h m (by simp [hm]))]
theorem valid_bytes (ns : List Int) (h : ∀ n ∈ ns, Utf8.valid n = true) : validD (bytes ns) = true := by
  induction ns with
  | nil => rfl
  | cons n ns ih =>
    have hn := h n (by simp)
    have hv : (0 ≤ n ∧ n < 55296) ∨ (57344 ≤ n ∧ n ≤ 1114111) := by simpa [Utf8.valid] using hn
    show validD (enc n ++ bytes ns) = true
    rw [validD_step _ (enc_ne n _), decodeL_enc n hn, if_neg]
    · simpa using ih (fun m hm => h m (by simp [hm]))
    · rintro ⟨e, e1⟩
      simp only at e e1
      have e' : n = 65533 := by omega
      subst e'
      revert e1
      decide

set_option maxHeartbeats 1000000 in
theorem decodeN_cases (n b0 b1 b2 b3 : Nat) (h1 : b1 < 256) (h2 : b2 < 256) (h3 : b3 < 256) (h0 : b0 < 256) :
    decodeN n b0 b1 b2 b3 = (65533, 1) ∨ (b0 < 128 ∧ decodeN n b0 b1 b2 b3 = (b0, 1)) ∨
    (∃ c, decodeN n b0 b1 b2 b3 = (c, 2) ∧ 1 < n ∧ 128 ≤ c ∧ c < 2048 ∧ b0 = 192 + c / 64 ∧ b1 = 128 + c % 64) ∨
    (∃ c, decodeN n b0 b1 b2 b3 = (c, 3) ∧ 2 < n ∧ 2048 ≤ c ∧ c < 65536 ∧ (c < 55296 ∨ 57344 ≤ c) ∧ b0 = 224 + c / 4096 ∧ b1 = 128 + c / 64 % 64 ∧ b2 = 128 + c % 64) ∨
    (∃ c, decodeN n b0 b1 b2 b3 = (c, 4) ∧ 3 < n ∧ 65536 ≤ c ∧ c ≤ 1114111 ∧ b0 = 240 + c / 262144 ∧ b1 = 128 + c / 4096 % 64 ∧ b2 = 128 + c / 64 % 64 ∧ b3 = 128 + c % 64) := by
  unfold decodeN
  by_cases c1 : b0 < 128
  · rw [if_pos c1]; exact .inr (.inl ⟨c1, rfl⟩)
  rw [if_neg c1]
  by_cases c2 : b0 / 32 = 6 ∧ (1 < n ∧ b1 / 64 = 2)
  · rw [if_pos c2]
    by_cases c3 : b0 % 32 * 64 + b1 % 64 ≥ 128
    · rw [if_pos c3]; exact .inr (.inr (.inl ⟨_, rfl, c2.2.1, c3, by omega, by omega, by omega⟩))
    · rw [if_neg c3]; exact .inl rfl
  rw [if_neg c2]
  by_cases c4 : b0 / 16 = 14 ∧ (1 < n ∧ b1 / 64 = 2) ∧ (2 < n ∧ b2 / 64 = 2)
  · rw [if_pos c4]
    obtain ⟨d1, ⟨d2, d3⟩, d4, d5⟩ := c4
    clear c2
    generalize hc : b0 % 16 * 4096 + b1 % 64 * 64 + b2 % 64 = c
    by_cases c5 : c ≥ 2048 ∧ (c < 55296 ∨ (57344 ≤ c ∧ c ≤ 1114111))
    · rw [if_pos c5]; exact .inr (.inr (.inr (.inl ⟨_, rfl, d4, c5.1, by omega, by omega, by omega, by omega, by omega⟩)))
    · rw [if_neg c5]; exact .inl rfl
  rw [if_neg c4]
  by_cases c6 : b0 / 8 = 30 ∧ (1 < n ∧ b1 / 64 = 2) ∧ (2 < n ∧ b2 / 64 = 2) ∧ (3 < n ∧ b3 / 64 = 2)
  · rw [if_pos c6]
    obtain ⟨d1, ⟨d2, d3⟩, ⟨d4, d5⟩, d6, d7⟩ := c6
    clear c2 c4
    generalize hc : b0 % 8 * 262144 + b1 % 64 * 4096 + b2 % 64 * 64 + b3 % 64 = c
    by_cases c7 : c ≥ 65536 ∧ (c < 55296 ∨ (57344 ≤ c ∧ c ≤ 1114111))
    · rw [if_pos c7]; exact .inr (.inr (.inr (.inr ⟨_, rfl, d6, c7.1, by omega, by omega, by omega, by omega, by omega⟩)))
    · rw [if_neg c7]; exact .inl rfl
  rw [if_neg c6]
  exact .inl rfl

theorem u8_eq {b : UInt8} {n : Nat} (h : b.toNat = n) : UInt8.ofNat n = b := by
  subst h
  simp
set_option maxRecDepth 100000 in
theorem enc_of {c : Nat} (hv : Utf8.valid (c : Int) = true) : enc (c : Int) = (if c < 0x80 then [UInt8.ofNat c] else if c < 0x800 then [UInt8.ofNat (0xC0 + c / 64), UInt8.ofNat (0x80 + c % 64)]
    else if c < 0x10000 then [UInt8.ofNat (0xE0 + c / 4096), UInt8.ofNat (0x80 + c / 64 % 64), UInt8.ofNat (0x80 + c % 64)]
    else [UInt8.ofNat (0xF0 + c / 262144), UInt8.ofNat (0x80 + c / 4096 % 64), UInt8.ofNat (0x80 + c / 64 % 64), UInt8.ofNat (0x80 + c % 64)]) := by
  unfold enc Utf8.encode
  simp only [hv, if_true, Int.toNat_natCast]
  by_cases h1 : c < 128
  · rw [if_pos h1, if_pos h1]
  · rw [if_neg h1, if_neg h1]
    by_cases h2 : c < 2048
    · rw [if_pos h2, if_pos h2]
    · rw [if_neg h2, if_neg h2]
      by_cases h3 : c < 65536
      · rw [if_pos h3, if_pos h3]
      · rw [if_neg h3, if_neg h3]
theorem valid_int {n : Int} (h : (0 ≤ n ∧ n < 55296) ∨ (57344 ≤ n ∧ n ≤ 1114111)) : Utf8.valid n = true := by
  simpa [Utf8.valid] using h
theorem int_valid {n : Int} (h : Utf8.valid n = true) : (0 ≤ n ∧ n < 55296) ∨ (57344 ≤ n ∧ n ≤ 1114111) := by
  simpa [Utf8.valid] using h
theorem valid_nat {c : Nat} (h : c < 55296 ∨ (57344 ≤ c ∧ c ≤ 1114111)) : Utf8.valid (c : Int) = true := valid_int (by omega)

set_option maxHeartbeats 1000000 in
/-- Where the bytes open a valid form, they are that rune's bytes. -/
theorem enc_decodeL (l : List UInt8) (hne : l ≠ []) (hok : ¬ ((decodeL l).1 = 65533 ∧ (decodeL l).2 = 1)) :
    Utf8.valid ((decodeL l).1 : Int) = true ∧ l = enc ((decodeL l).1 : Int) ++ l.drop (decodeL l).2 := by
  have hN := decodeL_N l
  rcases decodeN_cases l.length (l.getD 0 0).toNat (l.getD 1 0).toNat (l.getD 2 0).toNat (l.getD 3 0).toNat (UInt8.toNat_lt _) (UInt8.toNat_lt _) (UInt8.toNat_lt _) (UInt8.toNat_lt _) with h | ⟨h1, h⟩ | ⟨c, h, hn, h1, h2, e0, e1⟩ | ⟨c, h, hn, h1, h2, h3, e0, e1, e2⟩ | ⟨c, h, hn, h1, h2, e0, e1, e2, e3⟩
  · rw [h] at hN; rw [hN] at hok; simp at hok
  · rw [h] at hN
    rw [hN]
    have hv : Utf8.valid ((l.getD 0 0).toNat : Int) = true := valid_nat (by omega)
    refine ⟨hv, ?_⟩
    show l = enc ((l.getD 0 0).toNat : Int) ++ l.drop 1
    rw [enc_of hv, if_pos h1]
    clear h hN hok hv
    obtain ⟨a, t, rfl⟩ := List.exists_cons_of_ne_nil hne
    rw [List.getD_cons_zero, u8_eq rfl]
    rfl
  · rw [h] at hN
    rw [hN]
    have hv : Utf8.valid (c : Int) = true := valid_nat (by omega)
    refine ⟨hv, ?_⟩
    show l = enc (c : Int) ++ l.drop 2
    rw [enc_of hv, if_neg (by omega), if_pos h2]
    match l, hne, hn with
    | a :: b :: t, _, _ =>
      simp only [List.getD_cons_zero, List.getD_cons_succ] at e0 e1
      simp [u8_eq e0, u8_eq e1]
  · rw [h] at hN
    rw [hN]
    have hv : Utf8.valid (c : Int) = true := valid_nat (by omega)
    refine ⟨hv, ?_⟩
    show l = enc (c : Int) ++ l.drop 3
    rw [enc_of hv, if_neg (by omega), if_neg (by omega), if_pos h2]
    match l, hne, hn with
    | a :: b :: d :: t, _, _ =>
      simp only [List.getD_cons_zero, List.getD_cons_succ] at e0 e1 e2
      simp [u8_eq e0, u8_eq e1, u8_eq e2]
  · rw [h] at hN
    rw [hN]
    have hv : Utf8.valid (c : Int) = true := valid_nat (by omega)
    refine ⟨hv, ?_⟩
    show l = enc (c : Int) ++ l.drop 4
    rw [enc_of hv, if_neg (by omega), if_neg (by omega), if_neg (by omega)]
    match l, hne, hn with
    | a :: b :: d :: f :: t, _, _ =>
      simp only [List.getD_cons_zero, List.getD_cons_succ] at e0 e1 e2 e3
      simp [u8_eq e0, u8_eq e1, u8_eq e2, u8_eq e3]

theorem valid_runesN : ∀ (n : Nat) (l : List UInt8), l.length ≤ n → validD l = true → (∀ r ∈ runes l, Utf8.valid r = true) ∧ bytes (runes l) = l
  | 0, l, h, _ => by
    have : l = [] := List.eq_nil_of_length_eq_zero (by omega)
    subst this
    simp [runes_nil, bytes]
  | n + 1, l, h, hv => by
    by_cases hne : l = []
    · subst hne; simp [runes_nil, bytes]
    · have hw := decodeL_width l
      have hl : 0 < l.length := List.length_pos_iff.2 hne
      rw [validD_step l hne] at hv
      by_cases hb : (decodeL l).1 = 65533 ∧ (decodeL l).2 = 1
      · rw [if_pos hb] at hv; cases hv
      rw [if_neg hb] at hv
      obtain ⟨ih1, ih2⟩ := valid_runesN n (l.drop (decodeL l).2) (by rw [List.length_drop]; omega) hv
      obtain ⟨e1, e2⟩ := enc_decodeL l hne hb
      rw [runes_step l hne]
      refine ⟨fun r hr => ?_, ?_⟩
      · rcases List.mem_cons.1 hr with rfl | hr
        · exact e1
        · exact ih1 r hr
      · show enc _ ++ bytes _ = l
        rw [ih2]
        exact e2.symm
/-- Of valid bytes: their runes are valid, and the runes' bytes are they. -/
theorem valid_runes {l : List UInt8} (h : validD l = true) : ∀ r ∈ runes l, Utf8.valid r = true := (valid_runesN l.length l (Nat.le_refl _) h).1
theorem bytes_runes {l : List UInt8} (h : validD l = true) : bytes (runes l) = l := (valid_runesN l.length l (Nat.le_refl _) h).2
theorem bytes_inj {a b : List Int} (ha : ∀ n ∈ a, Utf8.valid n = true) (hb : ∀ n ∈ b, Utf8.valid n = true) (h : bytes a = bytes b) : a = b := by
  rw [← runes_bytes a ha, ← runes_bytes b hb, h]
end Go.Proofs.YthbfmdnibijapaaDoor.Utf
