/-
  PLAIN LAWS ON UTF-8: the runes of a list of bytes (the model's own decoder, step by step), the bytes of a list of runes (the model's own encoder), and that they undo each other where the bytes are valid. No program is named here.
  WHAT A CALL LEAVES: which blocks may have turned; the cells of old memory read as they did.
  AN ASK, OPENED: what a parameter of that type is, cell by cell, and how long its texts may be.
  SLICES OF STRUCTS OF NUMBERS, OPENED: row by row, cell by cell.
  OPS, PLAIN: which may be, their bytes, what bytes are.
  AN ASK OF OPS, OPENED: ops, each with what its site had seen, and texts.
-/
import Derived.Lib.ValidU
import Derived.Lib.ValidLaws
import Derived.Lib.TrimUEq
import Derived.Laws.Cover4
import Derived.Laws.IdiomStrings
import Derived.Test.YthkohjijppbliaaDoorChecked
import Derived.WalkKit
import Derived.Deep.QuietTactic
import Derived.BigQuiet
import Derived.Outline
import Derived.StillTailTactics
import Derived.Laws.CopyOwn
import Derived.IntWalk
import Derived.Lib.Hide
import Derived.Lib.MinMax
import Derived.Deep.RegionLaw
import Derived.BigRegion
import Derived.RegionTactic
import Derived.WalkSpells
import Derived.LoopTactic
import Derived.ProofKit
import Derived.SizedLaws
import Derived.Deep.Slices
import Derived.Lib.SmallJoins
import Derived.Deep.Strs
set_option linter.unusedVariables false
namespace Go.Proofs.YthkohjijppbliaaDoor.Utf
open Go Go.Lib

/-- The runes of bytes, at most n of them. -/
def runesN : Nat → List UInt8 → List Int
  | 0, _ => []
  | n + 1, l => if l = [] then [] else ((decodeL l).1 : Int) :: runesN n (l.drop (decodeL l).2)
/-- The runes of bytes. -/
def runes (l : List UInt8) : List Int := runesN l.length l
/-- A rune's bytes. -/
def enc (n : Int) : List UInt8 := (Utf8.encode n).data.toList
/-- The bytes of runes. -/
def bytes : List Int → List UInt8
  | [] => []
  | n :: r => enc n ++ bytes r

theorem runesN_nil : ∀ n, runesN n [] = []
  | 0 => rfl
  | _ + 1 => by simp [runesN]
theorem runesN_fuel : ∀ (n m : Nat) (l : List UInt8), l.length ≤ n → l.length ≤ m → runesN n l = runesN m l
  | 0, m, l, hn, _ => by
    have : l = [] := List.eq_nil_of_length_eq_zero (by omega)
    subst this
    rw [runesN_nil, runesN_nil]
  | n + 1, 0, l, _, hm => by
    have : l = [] := List.eq_nil_of_length_eq_zero (by omega)
    subst this
    rw [runesN_nil, runesN_nil]
  | n + 1, m + 1, l, hn, hm => by
    unfold runesN
    by_cases hne : l = []
    · simp [hne]
    · have hw := decodeL_width l
      have hl : 0 < l.length := List.length_pos_iff.2 hne
      rw [if_neg hne, if_neg hne, runesN_fuel n m (l.drop (decodeL l).2) (by rw [List.length_drop]; omega) (by rw [List.length_drop]; omega)]
theorem runes_nil : runes [] = [] := rfl
theorem runes_step (l : List UInt8) (hne : l ≠ []) : runes l = ((decodeL l).1 : Int) :: runes (l.drop (decodeL l).2) := by
  have hl : 0 < l.length := List.length_pos_iff.2 hne
  have hw := decodeL_width l
  obtain ⟨n, hn⟩ : ∃ n, l.length = n + 1 := ⟨l.length - 1, by omega⟩
  unfold runes
  rw [hn]
  show (if l = [] then [] else _) = _
  rw [if_neg hne, runesN_fuel n (l.drop (decodeL l).2).length _ (by rw [List.length_drop]; omega) (Nat.le_refl _)]
theorem runes_length_le : ∀ (n : Nat) (l : List UInt8), l.length ≤ n → (runes l).length ≤ l.length
  | 0, l, h => by
    have : l = [] := List.eq_nil_of_length_eq_zero (by omega)
    subst this
    simp [runes_nil]
  | n + 1, l, h => by
    by_cases hne : l = []
    · subst hne; simp [runes_nil]
    · have hw := decodeL_width l
      have hl : 0 < l.length := List.length_pos_iff.2 hne
      have ih := runes_length_le n (l.drop (decodeL l).2) (by rw [List.length_drop]; omega)
      rw [runes_step l hne, List.length_cons]
      rw [List.length_drop] at ih
      omega
theorem runes_length (l : List UInt8) : (runes l).length ≤ l.length := runes_length_le l.length l (Nat.le_refl _)

/-- The model's own conversion of a string to runes. -/
theorem runesFrom_eq (s : ByteArray) : ∀ (bound i : Nat) (acc : Array Value), s.size ≤ i + bound →
    Conv.runesFrom s bound i acc = acc ++ ((runes (s.data.toList.drop i)).map (Value.int .i32)).toArray
  | 0, i, acc, h => by
    have hd : s.data.toList.drop i = [] := List.drop_eq_nil_of_le (by have := Lib.size_eq s; omega)
    simp [Conv.runesFrom, hd, runes_nil]
  | bound + 1, i, acc, h => by
    unfold Conv.runesFrom
    have hs := Lib.size_eq s
    by_cases hi : i < s.size
    · have hne : s.data.toList.drop i ≠ [] := by
        intro e
        have := congrArg List.length e
        rw [List.length_drop] at this
        simp at this
        have hz : s.data.size = s.size := rfl
        omega
      have hw := decodeL_width (s.data.toList.drop i)
      rw [decodeL_drop] at hw
      rw [if_pos hi]
      show Conv.runesFrom s bound (i + (Utf8.decode s i).2) (acc.push (Value.int .i32 (Int.ofNat (Utf8.decode s i).1))) = _
      rw [runesFrom_eq s bound (i + (Utf8.decode s i).2) _ (by omega), runes_step _ hne, decodeL_drop, List.drop_drop]
      simp
    · have hd : s.data.toList.drop i = [] := List.drop_eq_nil_of_le (by omega)
      rw [if_neg hi, hd]
      simp [runes_nil]
theorem convRunes_eq (s : ByteArray) : Conv.runesFrom s s.size 0 #[] = ((runes s.data.toList).map (Value.int .i32)).toArray := by
  rw [runesFrom_eq s s.size 0 #[] (by omega)]
  simp

theorem foldl_bytes (ns : List Int) : ∀ s : ByteArray, (ns.foldl (fun r n => r ++ Utf8.encode n) s).data.toList = s.data.toList ++ bytes ns := by
  induction ns with
  | nil => intro s; simp [bytes]
  | cons n ns ih => intro s; rw [List.foldl_cons, ih]; simp [bytes, enc]
/-- The model's own conversion of runes to a string. -/
theorem runesBytes_eq (ns : List Int) : (runesBytes ns).data.toList = bytes ns := by
  unfold runesBytes
  rw [foldl_bytes]
  simp
theorem bytes_append (a b : List Int) : bytes (a ++ b) = bytes a ++ bytes b := by
  induction a with
  | nil => rfl
  | cons n a ih => simp [bytes, ih]

theorem toNat_ofNat {n : Nat} (h : n < 256) : (UInt8.ofNat n).toNat = n := by simp only [UInt8.toNat_ofNat']; omega

set_option maxHeartbeats 1000000 in
set_option maxRecDepth 100000 in
/-- At the head of bytes stands the rune that was encoded there. -/
theorem decodeL_enc (n : Int) (h : Utf8.valid n = true) (t : List UInt8) : decodeL (enc n ++ t) = (n.toNat, (enc n).length) := by
  have hv : (0 ≤ n ∧ n < 55296) ∨ (57344 ≤ n ∧ n ≤ 1114111) := by simpa [Utf8.valid] using h
  obtain ⟨c, rfl⟩ := Int.eq_ofNat_of_zero_le (show 0 ≤ n by omega)
  rw [decodeL_N]
  unfold enc Utf8.encode
  simp only [h, if_true, Int.toNat_natCast]
  by_cases h1 : c < 128
  · rw [if_pos h1]
    have e0 : (UInt8.ofNat c).toNat = c := toNat_ofNat (by omega)
    simp only [List.cons_append, List.nil_append, List.length_cons, List.getD_cons_zero, List.getD_cons_succ]
    rw [e0]
    unfold decodeN
    rw [if_pos h1]
    rfl
  · rw [if_neg h1]
    by_cases h2 : c < 2048
    · rw [if_pos h2]
      simp only [List.cons_append, List.nil_append, List.length_cons, List.getD_cons_zero, List.getD_cons_succ]
      have e0 : (UInt8.ofNat (192 + c / 64)).toNat = 192 + c / 64 := toNat_ofNat (by omega)
      have e1 : (UInt8.ofNat (128 + c % 64)).toNat = 128 + c % 64 := toNat_ofNat (by omega)
      rw [e0, e1]
      unfold decodeN
      rw [if_neg (by omega), if_pos ⟨by omega, by omega, by omega⟩, if_pos (by omega)]
      exact Prod.ext (by show _ = c; omega) rfl
    · rw [if_neg h2]
      by_cases h3 : c < 65536
      · rw [if_pos h3]
        simp only [List.cons_append, List.nil_append, List.length_cons, List.getD_cons_zero, List.getD_cons_succ]
        have e0 : (UInt8.ofNat (224 + c / 4096)).toNat = 224 + c / 4096 := toNat_ofNat (by omega)
        have e1 : (UInt8.ofNat (128 + c / 64 % 64)).toNat = 128 + c / 64 % 64 := toNat_ofNat (by omega)
        have e2 : (UInt8.ofNat (128 + c % 64)).toNat = 128 + c % 64 := toNat_ofNat (by omega)
        rw [e0, e1, e2]
        unfold decodeN
        rw [if_neg (by omega), if_neg (by omega), if_pos ⟨by omega, ⟨by omega, by omega⟩, by omega, by omega⟩, if_pos (by omega)]
        exact Prod.ext (by show _ = c; omega) rfl
      · rw [if_neg h3]
        simp only [List.cons_append, List.nil_append, List.length_cons, List.getD_cons_zero, List.getD_cons_succ]
        have e0 : (UInt8.ofNat (240 + c / 262144)).toNat = 240 + c / 262144 := toNat_ofNat (by omega)
        have e1 : (UInt8.ofNat (128 + c / 4096 % 64)).toNat = 128 + c / 4096 % 64 := toNat_ofNat (by omega)
        have e2 : (UInt8.ofNat (128 + c / 64 % 64)).toNat = 128 + c / 64 % 64 := toNat_ofNat (by omega)
        have e3 : (UInt8.ofNat (128 + c % 64)).toNat = 128 + c % 64 := toNat_ofNat (by omega)
        rw [e0, e1, e2, e3]
        unfold decodeN
        rw [if_neg (by omega), if_neg (by omega), if_neg (by omega), if_pos ⟨by omega, ⟨by omega, by omega⟩, ⟨by omega, by omega⟩, by omega, by omega⟩, if_pos (by omega)]
        exact Prod.ext (by show _ = c; omega) rfl
theorem enc_length (n : Int) : 1 ≤ (enc n).length ∧ (enc n).length ≤ 4 := by
  unfold enc Utf8.encode
  simp only
  repeat' split
  all_goals simp
theorem enc_ne (n : Int) (t : List UInt8) : enc n ++ t ≠ [] := by
  have := enc_length n
  intro e
  have e := congrArg List.length e
  rw [List.length_append, List.length_nil] at e
  omega
/-- The runes of what was encoded. -/
theorem runes_enc (n : Int) (h : Utf8.valid n = true) (t : List UInt8) : runes (enc n ++ t) = n :: runes t := by
  have h0 : 0 ≤ n := by
    have hv : (0 ≤ n ∧ n < 55296) ∨ (57344 ≤ n ∧ n ≤ 1114111) := by simpa [Utf8.valid] using h
    omega
  rw [runes_step _ (enc_ne n t), decodeL_enc n h t]
  simp
  omega
theorem runes_bytes (ns : List Int) (h : ∀ n ∈ ns, Utf8.valid n = true) : runes (bytes ns) = ns := by
  induction ns with
  | nil => rfl
  | cons n ns ih =>
    show runes (enc n ++ bytes ns) = _
    rw [runes_enc n (h n (by simp)), ih (fun m hm => h m (by simp [hm]))]
theorem valid_bytes (ns : List Int) (h : ∀ n ∈ ns, Utf8.valid n = true) : validD (bytes ns) = true := by
  induction ns with
  | nil => rfl
  | cons n ns ih =>
    have hn := h n (by simp)
    have hv : (0 ≤ n ∧ n < 55296) ∨ (57344 ≤ n ∧ n ≤ 1114111) := by simpa [Utf8.valid] using hn
    show validD (enc n ++ bytes ns) = true
    rw [validD_step _ (enc_ne n _), decodeL_enc n hn, if_neg]
    · simpa using ih (fun m hm => h m (by simp [hm]))
    · rintro ⟨e, e1⟩
      simp only at e e1
      have e' : n = 65533 := by omega
      subst e'
      revert e1
      decide

set_option maxHeartbeats 1000000 in
theorem decodeN_cases (n b0 b1 b2 b3 : Nat) (h1 : b1 < 256) (h2 : b2 < 256) (h3 : b3 < 256) (h0 : b0 < 256) :
    decodeN n b0 b1 b2 b3 = (65533, 1) ∨ (b0 < 128 ∧ decodeN n b0 b1 b2 b3 = (b0, 1)) ∨
    (∃ c, decodeN n b0 b1 b2 b3 = (c, 2) ∧ 1 < n ∧ 128 ≤ c ∧ c < 2048 ∧ b0 = 192 + c / 64 ∧ b1 = 128 + c % 64) ∨
    (∃ c, decodeN n b0 b1 b2 b3 = (c, 3) ∧ 2 < n ∧ 2048 ≤ c ∧ c < 65536 ∧ (c < 55296 ∨ 57344 ≤ c) ∧ b0 = 224 + c / 4096 ∧ b1 = 128 + c / 64 % 64 ∧ b2 = 128 + c % 64) ∨
    (∃ c, decodeN n b0 b1 b2 b3 = (c, 4) ∧ 3 < n ∧ 65536 ≤ c ∧ c ≤ 1114111 ∧ b0 = 240 + c / 262144 ∧ b1 = 128 + c / 4096 % 64 ∧ b2 = 128 + c / 64 % 64 ∧ b3 = 128 + c % 64) := by
  unfold decodeN
  by_cases c1 : b0 < 128
  · rw [if_pos c1]; exact .inr (.inl ⟨c1, rfl⟩)
  rw [if_neg c1]
  by_cases c2 : b0 / 32 = 6 ∧ (1 < n ∧ b1 / 64 = 2)
  · rw [if_pos c2]
    by_cases c3 : b0 % 32 * 64 + b1 % 64 ≥ 128
    · rw [if_pos c3]; exact .inr (.inr (.inl ⟨_, rfl, c2.2.1, c3, by omega, by omega, by omega⟩))
    · rw [if_neg c3]; exact .inl rfl
  rw [if_neg c2]
  by_cases c4 : b0 / 16 = 14 ∧ (1 < n ∧ b1 / 64 = 2) ∧ (2 < n ∧ b2 / 64 = 2)
  · rw [if_pos c4]
    obtain ⟨d1, ⟨d2, d3⟩, d4, d5⟩ := c4
    clear c2
    generalize hc : b0 % 16 * 4096 + b1 % 64 * 64 + b2 % 64 = c
    by_cases c5 : c ≥ 2048 ∧ (c < 55296 ∨ (57344 ≤ c ∧ c ≤ 1114111))
    · rw [if_pos c5]; exact .inr (.inr (.inr (.inl ⟨_, rfl, d4, c5.1, by omega, by omega, by omega, by omega, by omega⟩)))
    · rw [if_neg c5]; exact .inl rfl
  rw [if_neg c4]
  by_cases c6 : b0 / 8 = 30 ∧ (1 < n ∧ b1 / 64 = 2) ∧ (2 < n ∧ b2 / 64 = 2) ∧ (3 < n ∧ b3 / 64 = 2)
  · rw [if_pos c6]
    obtain ⟨d1, ⟨d2, d3⟩, ⟨d4, d5⟩, d6, d7⟩ := c6
    clear c2 c4
    generalize hc : b0 % 8 * 262144 + b1 % 64 * 4096 + b2 % 64 * 64 + b3 % 64 = c
    by_cases c7 : c ≥ 65536 ∧ (c < 55296 ∨ (57344 ≤ c ∧ c ≤ 1114111))
    · rw [if_pos c7]; exact .inr (.inr (.inr (.inr ⟨_, rfl, d6, c7.1, by omega, by omega, by omega, by omega, by omega⟩)))
    · rw [if_neg c7]; exact .inl rfl
  rw [if_neg c6]
  exact .inl rfl

theorem u8_eq {b : UInt8} {n : Nat} (h : b.toNat = n) : UInt8.ofNat n = b := by
  subst h
  simp
set_option maxRecDepth 100000 in
theorem enc_of {c : Nat} (hv : Utf8.valid (c : Int) = true) : enc (c : Int) = (if c < 0x80 then [UInt8.ofNat c] else if c < 0x800 then [UInt8.ofNat (0xC0 + c / 64), UInt8.ofNat (0x80 + c % 64)]
    else if c < 0x10000 then [UInt8.ofNat (0xE0 + c / 4096), UInt8.ofNat (0x80 + c / 64 % 64), UInt8.ofNat (0x80 + c % 64)]
    else [UInt8.ofNat (0xF0 + c / 262144), UInt8.ofNat (0x80 + c / 4096 % 64), UInt8.ofNat (0x80 + c / 64 % 64), UInt8.ofNat (0x80 + c % 64)]) := by
  unfold enc Utf8.encode
  simp only [hv, if_true, Int.toNat_natCast]
  by_cases h1 : c < 128
  · rw [if_pos h1, if_pos h1]
  · rw [if_neg h1, if_neg h1]
    by_cases h2 : c < 2048
    · rw [if_pos h2, if_pos h2]
    · rw [if_neg h2, if_neg h2]
      by_cases h3 : c < 65536
      · rw [if_pos h3, if_pos h3]
      · rw [if_neg h3, if_neg h3]
theorem valid_int {n : Int} (h : (0 ≤ n ∧ n < 55296) ∨ (57344 ≤ n ∧ n ≤ 1114111)) : Utf8.valid n = true := by
  simpa [Utf8.valid] using h
theorem int_valid {n : Int} (h : Utf8.valid n = true) : (0 ≤ n ∧ n < 55296) ∨ (57344 ≤ n ∧ n ≤ 1114111) := by
  simpa [Utf8.valid] using h
theorem valid_nat {c : Nat} (h : c < 55296 ∨ (57344 ≤ c ∧ c ≤ 1114111)) : Utf8.valid (c : Int) = true := valid_int (by omega)

set_option maxHeartbeats 1000000 in
/-- Where the bytes open a valid form, they are that rune's bytes. -/
theorem enc_decodeL (l : List UInt8) (hne : l ≠ []) (hok : ¬ ((decodeL l).1 = 65533 ∧ (decodeL l).2 = 1)) :
    Utf8.valid ((decodeL l).1 : Int) = true ∧ l = enc ((decodeL l).1 : Int) ++ l.drop (decodeL l).2 := by
  have hN := decodeL_N l
  rcases decodeN_cases l.length (l.getD 0 0).toNat (l.getD 1 0).toNat (l.getD 2 0).toNat (l.getD 3 0).toNat (UInt8.toNat_lt _) (UInt8.toNat_lt _) (UInt8.toNat_lt _) (UInt8.toNat_lt _) with h | ⟨h1, h⟩ | ⟨c, h, hn, h1, h2, e0, e1⟩ | ⟨c, h, hn, h1, h2, h3, e0, e1, e2⟩ | ⟨c, h, hn, h1, h2, e0, e1, e2, e3⟩
  · rw [h] at hN; rw [hN] at hok; simp at hok
  · rw [h] at hN
    rw [hN]
    have hv : Utf8.valid ((l.getD 0 0).toNat : Int) = true := valid_nat (by omega)
    refine ⟨hv, ?_⟩
    show l = enc ((l.getD 0 0).toNat : Int) ++ l.drop 1
    rw [enc_of hv, if_pos h1]
    clear h hN hok hv
    obtain ⟨a, t, rfl⟩ := List.exists_cons_of_ne_nil hne
    rw [List.getD_cons_zero, u8_eq rfl]
    rfl
  · rw [h] at hN
    rw [hN]
    have hv : Utf8.valid (c : Int) = true := valid_nat (by omega)
    refine ⟨hv, ?_⟩
    show l = enc (c : Int) ++ l.drop 2
    rw [enc_of hv, if_neg (by omega), if_pos h2]
    match l, hne, hn with
    | a :: b :: t, _, _ =>
      simp only [List.getD_cons_zero, List.getD_cons_succ] at e0 e1
      simp [u8_eq e0, u8_eq e1]
  · rw [h] at hN
    rw [hN]
    have hv : Utf8.valid (c : Int) = true := valid_nat (by omega)
    refine ⟨hv, ?_⟩
    show l = enc (c : Int) ++ l.drop 3
    rw [enc_of hv, if_neg (by omega), if_neg (by omega), if_pos h2]
    match l, hne, hn with
    | a :: b :: d :: t, _, _ =>
      simp only [List.getD_cons_zero, List.getD_cons_succ] at e0 e1 e2
      simp [u8_eq e0, u8_eq e1, u8_eq e2]
  · rw [h] at hN
    rw [hN]
    have hv : Utf8.valid (c : Int) = true := valid_nat (by omega)
    refine ⟨hv, ?_⟩
    show l = enc (c : Int) ++ l.drop 4
    rw [enc_of hv, if_neg (by omega), if_neg (by omega), if_neg (by omega)]
    match l, hne, hn with
    | a :: b :: d :: f :: t, _, _ =>
      simp only [List.getD_cons_zero, List.getD_cons_succ] at e0 e1 e2 e3
      simp [u8_eq e0, u8_eq e1, u8_eq e2, u8_eq e3]

theorem valid_runesN : ∀ (n : Nat) (l : List UInt8), l.length ≤ n → validD l = true → (∀ r ∈ runes l, Utf8.valid r = true) ∧ bytes (runes l) = l
  | 0, l, h, _ => by
    have : l = [] := List.eq_nil_of_length_eq_zero (by omega)
    subst this
    simp [runes_nil, bytes]
  | n + 1, l, h, hv => by
    by_cases hne : l = []
    · subst hne; simp [runes_nil, bytes]
    · have hw := decodeL_width l
      have hl : 0 < l.length := List.length_pos_iff.2 hne
      rw [validD_step l hne] at hv
      by_cases hb : (decodeL l).1 = 65533 ∧ (decodeL l).2 = 1
      · rw [if_pos hb] at hv; cases hv
      rw [if_neg hb] at hv
      obtain ⟨ih1, ih2⟩ := valid_runesN n (l.drop (decodeL l).2) (by rw [List.length_drop]; omega) hv
      obtain ⟨e1, e2⟩ := enc_decodeL l hne hb
      rw [runes_step l hne]
      refine ⟨fun r hr => ?_, ?_⟩
      · rcases List.mem_cons.1 hr with rfl | hr
        · exact e1
        · exact ih1 r hr
      · show enc _ ++ bytes _ = l
        rw [ih2]
        exact e2.symm
/-- Of valid bytes: their runes are valid, and the runes' bytes are they. -/
theorem valid_runes {l : List UInt8} (h : validD l = true) : ∀ r ∈ runes l, Utf8.valid r = true := (valid_runesN l.length l (Nat.le_refl _) h).1
theorem bytes_runes {l : List UInt8} (h : validD l = true) : bytes (runes l) = l := (valid_runesN l.length l (Nat.le_refl _) h).2
theorem bytes_inj {a b : List Int} (ha : ∀ n ∈ a, Utf8.valid n = true) (hb : ∀ n ∈ b, Utf8.valid n = true) (h : bytes a = bytes b) : a = b := by
  rw [← runes_bytes a ha, ← runes_bytes b hb, h]
end Go.Proofs.YthkohjijppbliaaDoor.Utf
namespace Go.Proofs.YthkohjijppbliaaDoor
open Go Go.RowKit

theorem addr_add (cb lo j : Nat) : (Addr.add ⟨cb, lo, none⟩ j) = ⟨cb, lo + j, none⟩ := by
  unfold Addr.add
  by_cases h : j = 0
  · subst h; simp
  · rw [if_neg h]
/-- But for the blocks of S nothing that was there has turned. -/
structure Kept (S : Nat → Prop) (w w' : World) : Prop where
  os : w'.os = w.os
  tape : w'.tape = w.tape
  output : w'.output = w.output
  size : w.heap.size ≤ w'.heap.size
  block : ∀ k, k < w.heap.size → ¬ S k → w'.heap[k]? = w.heap[k]?
theorem Kept.refl (S : Nat → Prop) (w : World) : Kept S w w := ⟨rfl, rfl, rfl, Nat.le_refl _, fun _ _ _ => rfl⟩
theorem Kept.trans {S : Nat → Prop} {a b c : World} (h : Kept S a b) (k : Kept S b c) : Kept S a c :=
  ⟨k.os.trans h.os, k.tape.trans h.tape, k.output.trans h.output, Nat.le_trans h.size k.size, fun i hi hs => (k.block i (Nat.lt_of_lt_of_le hi h.size) hs).trans (h.block i hi hs)⟩
theorem Kept.mono {S T : Nat → Prop} {a b : World} (h : Kept S a b) (hST : ∀ k, k < a.heap.size → S k → T k) : Kept T a b :=
  ⟨h.os, h.tape, h.output, h.size, fun k hk hn => h.block k hk fun hs => hn (hST k hk hs)⟩
theorem Kept.drewN {S : Nat → Prop} {a b : World} (h : Kept S a b) (n : Nat) : Kept S a (b.drewN n) := ⟨h.os, h.tape, h.output, h.size, h.block⟩
theorem Kept.drew {S : Nat → Prop} {a b : World} (h : Kept S a b) : Kept S a b.drew := ⟨h.os, h.tape, h.output, h.size, h.block⟩
theorem Kept.alloc {S : Nat → Prop} {a b : World} (h : Kept S a b) (o : Obj) : Kept S a (b.alloc o) :=
  h.trans ⟨rfl, rfl, rfl, by simp, fun k hk _ => Below.heap_alloc _ _ _ hk⟩
theorem Kept.setCell {S : Nat → Prop} {a b : World} (h : Kept S a b) {p : Addr} (hp : S p.block) (u : Value) : Kept S a (b.setCell p u) :=
  h.trans ⟨rfl, rfl, rfl, by simp [World.setCell], fun k _ hk => Below.heap_setCell _ _ _ _ (fun e => hk (e ▸ hp))⟩
theorem Kept.setRow {S : Nat → Prop} {a b : World} (h : Kept S a b) {g : Nat} (hg : S g) (cs : Array Value) : Kept S a (b.setRow g cs) :=
  h.trans ⟨rfl, rfl, rfl, by simp [World.setRow], fun k _ hk => setRow_other _ _ _ _ (fun e => hk (e ▸ hg))⟩
theorem Kept.below {S : Nat → Prop} {a b : World} (h : Kept S a b) {B : Nat} (hB : B ≤ a.heap.size) (hS : ∀ k, S k → B ≤ k) : Below B a b :=
  ⟨h.os, h.tape, h.output, h.size, fun k hk => h.block k (by omega) fun hs => by have := hS k hs; omega⟩
theorem heap_lt {w : World} {g : Nat} {o : Obj} (h : w.heap[g]? = some o) : g < w.heap.size := by
  rcases Nat.lt_or_ge g w.heap.size with hlt | hge
  · exact hlt
  · rw [Array.getElem?_eq_none hge] at h; cases h
theorem block_ne {w : World} {g g' : Nat} {t t' : TypeId} {cs cs' : Array Value} {f f' : Nat × Nat} (h : w.heap[g]? = some (.cells cs t f)) (h' : w.heap[g']? = some (.cells cs' t' f')) (hne : t ≠ t') : g ≠ g' := by
  rintro rfl
  rw [h] at h'
  injection h' with h'
  injection h' with _ ht
  exact hne ht
theorem heap_set {w : World} {g i : Nat} {t : TypeId} {cs : Array Value} {f : Nat × Nat} (h : w.heap[g]? = some (.cells cs t f)) (u : Value) : (w.setCell ⟨g, i, none⟩ u).heap[g]? = some (.cells (cs.setIfInBounds i u) t f) := by
  simp [World.setCell, Array.getElem?_modify, h]
theorem heap_far {w : World} {g g' i : Nat} (h : g ≠ g') (u : Value) : (w.setCell ⟨g', i, none⟩ u).heap[g]? = w.heap[g]? := Below.heap_setCell _ _ _ _ h
theorem frozen_of {w : World} {g i : Nat} {t : TypeId} {cs : Array Value} (h : w.heap[g]? = some (.cells cs t (0, 0))) : w.frozen? ⟨g, i, none⟩ = false := by
  simp [World.frozen?, h]

theorem cell_kept {S : Nat → Prop} {w w' : World} {p : Addr} {v : Value} (hk : Kept S w w') (h : w.cell? p = some v) (hs : ¬ S p.block) : w'.cell? p = some v :=
  (World.cell?_of_block (hk.block _ (World.block_lt_of_cell? w _ h) hs)).trans h
theorem Kept.of_below {w w' : World} (h : Below w.heap.size w w') : Kept (fun _ => False) w w' := ⟨h.os, h.tape, h.output, h.size, fun k hk _ => h.block k hk⟩
theorem Kept.to_below {w w' : World} (h : Kept (fun _ => False) w w') : Below w.heap.size w w' := ⟨h.os, h.tape, h.output, h.size, fun k hk => h.block k hk (fun h => h)⟩
theorem Kept.any {S : Nat → Prop} {w w' : World} (h : Kept (fun _ => False) w w') : Kept S w w' := h.mono (fun _ _ h => h.elim)
theorem Kept.grown {S : Nat → Prop} {a b c : World} (h : Kept S a b) (hg : b.grownBy c none) : Kept S a c :=
  h.trans ⟨hg.os, hg.tape, hg.output, hg.size, fun k hk _ => hg.block k hk (by simp)⟩
theorem Kept.grew {a b c : World} {row : Option Nat} (h : Kept (fun _ => False) a b) (hg : b.grownBy c row) (hrow : ∀ k, row = some k → a.heap.size ≤ k) : Kept (fun _ => False) a c :=
  Kept.of_below ((Kept.to_below h).grown hg h.size hrow)
theorem Kept.fresh {S : Nat → Prop} {w w1 w2 : World} (h1 : Kept (fun _ => False) w w1) (h2 : Kept S w1 w2) (hS : ∀ k, k < w.heap.size → ¬ S k) : Kept (fun _ => False) w w2 :=
  ⟨h2.os.trans h1.os, h2.tape.trans h1.tape, h2.output.trans h1.output, Nat.le_trans h1.size h2.size, fun k hk _ => (h2.block k (Nat.lt_of_lt_of_le hk h1.size) (hS k hk)).trans (h1.block k hk id)⟩
/-- What an outer world kept is kept when a later one only touches what is newer. -/
theorem Kept.over {S T : Nat → Prop} {w w1 w2 : World} (h1 : Kept S w w1) (h2 : Kept T w1 w2) (hT : ∀ k, k < w.heap.size → T k → S k) : Kept S w w2 :=
  ⟨h2.os.trans h1.os, h2.tape.trans h1.tape, h2.output.trans h1.output, Nat.le_trans h1.size h2.size, fun k hk hs => (h2.block k (Nat.lt_of_lt_of_le hk h1.size) (fun ht => hs (hT k hk ht))).trans (h1.block k hk hs)⟩

/-- A slice of numbers. -/
def Nums (w : World) (A : Option Addr) (m : Nat) (xs : List Int) : Prop :=
  xs.length = m ∧ ∀ j x, xs[j]? = some x → ∃ ad, A = some ad ∧ w.cell? (ad.add j) = some (.int .i64 x)
theorem Nums.cell {w : World} {A : Option Addr} {m : Nat} {xs : List Int} (h : Nums w A m xs) {j : Nat} (hj : j < m) : ∃ ad x, A = some ad ∧ xs[j]? = some x ∧ w.cell? (ad.add j) = some (.int .i64 x) := by
  have hl : j < xs.length := by rw [h.1]; exact hj
  obtain ⟨ad, e, r⟩ := h.2 j xs[j] (List.getElem?_eq_getElem hl)
  exact ⟨ad, xs[j], e, List.getElem?_eq_getElem hl, r⟩
theorem Nums.kept {S : Nat → Prop} {w w' : World} {A : Option Addr} {m : Nat} {xs : List Int} (h : Nums w A m xs) (hk : Kept S w w') (hs : ∀ a, A = some a → ¬ S a.block) : Nums w' A m xs := by
  refine ⟨h.1, fun j x hj => ?_⟩
  obtain ⟨ad, e, r⟩ := h.2 j x hj
  refine ⟨ad, e, cell_kept hk r ?_⟩
  rw [show (ad.add j).block = ad.block by unfold Addr.add; split <;> rfl]
  exact hs ad e

/-- A slice of runes. -/
def Rn (w : World) (A : Option Addr) (n : Nat) (t : List Int) : Prop :=
  t.length = n ∧ ∀ j x, t[j]? = some x → ∃ ad, A = some ad ∧ w.cell? (ad.add j) = some (.int .i32 x)
theorem Rn.cell {w : World} {A : Option Addr} {m : Nat} {xs : List Int} (h : Rn w A m xs) {j : Nat} (hj : j < m) : ∃ ad x, A = some ad ∧ xs[j]? = some x ∧ w.cell? (ad.add j) = some (.int .i32 x) := by
  have hl : j < xs.length := by rw [h.1]; exact hj
  obtain ⟨ad, e, r⟩ := h.2 j xs[j] (List.getElem?_eq_getElem hl)
  exact ⟨ad, xs[j], e, List.getElem?_eq_getElem hl, r⟩
theorem Rn.kept {S : Nat → Prop} {w w' : World} {A : Option Addr} {m : Nat} {xs : List Int} (h : Rn w A m xs) (hk : Kept S w w') (hs : ∀ a, A = some a → ¬ S a.block) : Rn w' A m xs := by
  refine ⟨h.1, fun j x hj => ?_⟩
  obtain ⟨ad, e, r⟩ := h.2 j x hj
  refine ⟨ad, e, cell_kept hk r ?_⟩
  rw [show (ad.add j).block = ad.block by unfold Addr.add; split <;> rfl]
  exact hs ad e
theorem Rn.drewN {w : World} {A : Option Addr} {m : Nat} {xs : List Int} (h : Rn w A m xs) (q : Nat) : Rn (w.drewN q) A m xs := h
/-- Runes of a text: numbers from 0 to the greatest rune's. -/
def Runey (t : List Int) : Prop := ∀ r ∈ t, 0 ≤ r ∧ r ≤ 1114111
theorem Runey.at_ {t : List Int} (h : Runey t) {j : Nat} {x : Int} (hj : t[j]? = some x) : 0 ≤ x ∧ x ≤ 1114111 := h x (List.mem_of_getElem? hj)
end Go.Proofs.YthkohjijppbliaaDoor
namespace Go.Proofs.YthkohjijppbliaaDoor
open Go Go.RowKit Go.ChangeShapes Go.WideShapes Go.ChangeAt

theorem laidOut : laidOutB Tryd.prog = true := by kernel_rfl
theorem cells_string : Tryd.prog.cellsOf 9 = 1 := by kernel_rfl
theorem cells_int : Tryd.prog.cellsOf 3 = 1 := by kernel_rfl
theorem cells_strings : Tryd.prog.cellsOf 83 = 1 := by kernel_rfl
theorem bytes_string : Tryd.prog.bytesOf 9 = 16 := by kernel_rfl
theorem bytes_int : Tryd.prog.bytesOf 3 = 8 := by kernel_rfl
theorem addr_far (x : Addr) (j : Nat) (hj : j ≠ 0) : x.add j = ⟨x.block, x.off + j, none⟩ := by
  unfold Addr.add; rw [if_neg hj]

/-- What a law leaves that has only made memory: every old place reads as it did, the argument among them. -/
theorem post_below {H : Type} {enc : TypeId × Value → H} {P : Program} {f : Func} {s : ChangeSpec} {apart fresh handsOn again : Bool} {W W' : World} {args : Array Value} {v : Value} {ds gs : List (DataW H)} {before pv : List MemPlace}
    (hW : DataW.Whole enc P f.params.toList s.vars apart W args.toList ds gs (before ++ pv)) (hb : Below W.heap.size W W')
    (hres : ∀ (b : Nat) (sp : Nat → Bool) (hd : Bool), DataW.TrodAll enc P W' b sp hd f.resultTypes.toList (v.resultList f.resultTypes.size) (s.fn H (ds ++ gs)).results [])
    (hargs : ∀ sp : Nat → Bool, (∀ p ∈ before, sp p.block = true) → DataW.TrodAll enc P W' 0 sp true f.params.toList args.toList (s.fn H (ds ++ gs)).args before)
    (hvars : ∀ sp : Nat → Bool, (∀ p ∈ pv, sp p.block = true) → DataW.TrodVars enc P W' sp s.vars (s.fn H (ds ++ gs)).vars pv)
    (hok : ∀ (j : Nat) (t : TypeId) (r : Value), f.resultTypes[j]? = some t → (v.resultList f.resultTypes.size)[j]? = some r → Value.okWide P W' .any 0 t r) :
    s.post enc P f apart fresh handsOn again W args v W' := by
  have old : ∀ p ∈ before ++ pv, p.block < W.heap.size := fun p hp => hW.lt p hp
  have oldA : ∀ p ∈ before, decide (p.block < W.heap.size) = true := fun p hp => decide_eq_true (old p (List.mem_append_left _ hp))
  have oldV : ∀ p ∈ pv, decide (p.block < W.heap.size) = true := fun p hp => decide_eq_true (old p (List.mem_append_right _ hp))
  obtain ⟨_, _, _, _, _, unfrozen, distinct⟩ := id hW
  refine ⟨ds, gs, before ++ pv, [], before, pv, hW, hres _ _ _, hargs _ oldA, hvars _ oldV, hb.frame _, fun _ => ⟨hok, (s.fn H (ds ++ gs)).results ++ (s.fn H (ds ++ gs)).args, (s.fn H (ds ++ gs)).vars, before ++ pv, ?_, fun p hp _ => hp⟩⟩
  refine ⟨before, pv, ?_, hvars _ (fun _ _ => rfl), rfl, fun b off hp => ?_, distinct⟩
  · simpa using trodAll_append (hargs (fun _ => true) (fun _ _ => rfl)) (hres 0 (fun _ => true) true)
  · exact (hb.frozen (p := ⟨b, off, none⟩) (old _ hp)).trans (unfrozen b off hp)


/-- A slice of texts. -/
def Strs (w : World) (A : Option Addr) (n : Nat) (ss : List ByteArray) : Prop :=
  ss.length = n ∧ ∀ j s, ss[j]? = some s → ∃ ad, A = some ad ∧ w.cell? (ad.add j) = some (.string s) ∧ s.size ≤ 140737488351232
theorem Strs.cell {w : World} {A : Option Addr} {n : Nat} {ss : List ByteArray} (h : Strs w A n ss) {j : Nat} (hj : j < n) : ∃ ad s, A = some ad ∧ ss[j]? = some s ∧ w.cell? (ad.add j) = some (.string s) ∧ s.size ≤ 140737488351232 := by
  have hl : j < ss.length := by rw [h.1]; exact hj
  obtain ⟨ad, e, r⟩ := h.2 j ss[j] (List.getElem?_eq_getElem hl)
  exact ⟨ad, ss[j], e, List.getElem?_eq_getElem hl, r⟩
theorem Strs.kept {w w' : World} {A : Option Addr} {n : Nat} {ss : List ByteArray} (h : Strs w A n ss) (hk : Kept (fun _ => False) w w') : Strs w' A n ss := by
  refine ⟨h.1, fun j s hj => ?_⟩
  obtain ⟨ad, e, r, hs⟩ := h.2 j s hj
  exact ⟨ad, e, cell_kept hk r id, hs⟩
/-- A number that an int can hold. -/
def I64 (x : Int) : Prop := -9223372036854775808 ≤ x ∧ x ≤ 9223372036854775807
theorem i64_of_wf {x : Int} (h : (Lit.int .i64 x).wf = true) : I64 x := by
  unfold Lit.wf at h
  simp only [Bool.and_eq_true, decide_eq_true_eq] at h
  have h1 : IntKind.i64.min = -9223372036854775808 := by decide
  have h2 : IntKind.i64.max = 9223372036854775807 := by decide
  rw [h1, h2] at h
  exact h

section
variable {H : Type} {enc : TypeId × Value → H} {W : World} {base : Nat} {sp : Nat → Bool} {held : Bool}

theorem mem_weightsAll {P : Program} {e : TypeId} {l : List (DataW H)} {d : DataW H} (hd : d ∈ l) {q : Nat} (hq : q ∈ d.weights P e) : q ∈ DataW.weightsAll P e l := by
  induction l with
  | nil => cases hd
  | cons x l ih =>
    simp only [DataW.weightsAll, List.mem_append]
    rcases List.mem_cons.1 hd with rfl | h
    · exact Or.inl hq
    · exact Or.inr (ih h)

instance : Inhabited ByteArray := ⟨.empty⟩
set_option maxRecDepth 100000 in
theorem strs_open {fuel : Nat} {cs : List Value} {x : DataW H × List MemPlace} (h : DataW.trod enc Tryd.prog W base sp held fuel 83 cs = some x) (hz : ∀ q ∈ x.1.weights Tryd.prog 83, q ≤ reachBytes) :
    ∃ (A : Option Addr) (n c : Nat) (ss : List ByteArray), cs = [.slice A n c] ∧ Strs W A n ss ∧ n ≤ 8796093022208 := by
  rcases Deep.open_slice1 Tryd.underlying83 cells_string h with ⟨rfl, rfl⟩ | ⟨a, len, cap, m, fu, V, D, Pl, rfl, hb, hl, hm, hmm, rfl, hx⟩
  · exact ⟨none, 0, 0, [], rfl, ⟨rfl, fun j x hj => by simp at hj⟩, by omega⟩
  · have hle : len ≤ m := by rw [hmm]; split <;> omega
    have hw : DataW.weights Tryd.prog 83 (DataW.slice ((List.range len).map D) ((List.range (m - len)).map fun j => D (len + j))) =
        (((List.range len).map D).length + ((List.range (m - len)).map fun j => D (len + j)).length) * Tryd.prog.bytesOf 9 :: (DataW.weightsAll Tryd.prog 9 ((List.range len).map D) ++ DataW.weightsAll Tryd.prog 9 ((List.range (m - len)).map fun j => D (len + j))) := by
      simp only [DataW.weights, Tryd.underlying83]
    have hlen : len ≤ 8796093022208 := by
      have h1 := hz _ (by rw [hw]; exact List.mem_cons_self)
      simp only [List.length_map, List.length_range, bytes_string] at h1
      unfold reachBytes at h1
      omega
    obtain ⟨q, hq⟩ := Deep.choose_lt (α := ByteArray) (n := len) (p := fun i s => W.cell? (a.add i) = some (.string s) ∧ s.size ≤ 140737488351232) (fun i hi => by
      obtain ⟨h1, h2⟩ := hx i (by omega)
      obtain ⟨S, e1, hD, hS⟩ := DataW.trod_string Tryd.underlying9 h2
      simp only [List.cons.injEq, and_true] at e1
      refine ⟨S, by rw [h1, e1], ?_⟩
      have := hz S.data.toList.length (by
        rw [hw]
        refine List.mem_cons_of_mem _ (List.mem_append_left _ (mem_weightsAll (d := D i) (List.mem_map.2 ⟨i, List.mem_range.2 hi, rfl⟩) ?_))
        have hD' := congrArg Prod.fst hD
        simp only at hD'
        rw [hD']
        simp [DataW.weights])
      rw [Array.length_toList] at this
      exact this)
    refine ⟨some a, len, cap, (List.range len).map q, rfl, ⟨by simp, fun j x hj => ⟨a, rfl, ?_⟩⟩, hlen⟩
    have hjl : j < len := by
      by_cases hjl : j < len
      · exact hjl
      · rw [List.getElem?_eq_none (by simp; omega)] at hj; simp at hj
    rw [List.getElem?_map, List.getElem?_range hjl] at hj
    simp only [Option.map_some, Option.some.injEq] at hj
    rw [← hj]
    exact hq j hjl

end
end Go.Proofs.YthkohjijppbliaaDoor
namespace Go.Proofs.YthkohjijppbliaaDoor
open Go Go.RowKit Go.ChangeShapes Go.WideShapes Go.ChangeAt

theorem addr_blk (x : Addr) (j : Nat) : (x.add j).block = x.block := by unfold Addr.add; split <;> rfl
/-- A slice's room. -/
def Cp (A : Option Addr) (n c : Nat) : Prop := n ≤ c ∧ (A = none → c = 0)
/-- A slice of structs of k numbers each. -/
def Rws (w : World) (A : Option Addr) (n k : Nat) (rows : List (List Int)) : Prop :=
  rows.length = n ∧ ∀ i r, rows[i]? = some r → r.length = k ∧ (∀ x ∈ r, I64 x) ∧ ∃ ad, A = some ad ∧ ∀ f x, r[f]? = some x → w.cell? ((ad.add (i * k)).add f) = some (.int .i64 x)
theorem Rws.kept {w w' : World} {S : Nat → Prop} {A : Option Addr} {n k : Nat} {rows : List (List Int)} (h : Rws w A n k rows) (hk : Kept S w w') (hS : ∀ a, A = some a → ¬ S a.block) : Rws w' A n k rows := by
  refine ⟨h.1, fun i r hi => ?_⟩
  obtain ⟨h1, h2, ad, e, hc⟩ := h.2 i r hi
  refine ⟨h1, h2, ad, e, fun f x hf => cell_kept hk (hc f x hf) ?_⟩
  rw [addr_blk, addr_blk]
  exact hS ad e
theorem Rws.row {w : World} {A : Option Addr} {n k : Nat} {rows : List (List Int)} (h : Rws w A n k rows) {i : Nat} (hi : i < n) : ∃ ad r, A = some ad ∧ rows[i]? = some r ∧ r.length = k ∧ (∀ x ∈ r, I64 x) ∧ ∀ f x, r[f]? = some x → w.cell? ((ad.add (i * k)).add f) = some (.int .i64 x) := by
  have hl : i < rows.length := by rw [h.1]; exact hi
  obtain ⟨h1, h2, ad, e, hc⟩ := h.2 i rows[i] (List.getElem?_eq_getElem hl)
  exact ⟨ad, rows[i], e, List.getElem?_eq_getElem hl, h1, h2, hc⟩
section
variable {H : Type} {enc : TypeId × Value → H} {W : World} {base : Nat} {sp : Nat → Bool} {held : Bool}
set_option maxRecDepth 100000 in
theorem rows_open {t e : TypeId} {k : Nat} (ht : Tryd.prog.underlying t = some (.slice e)) (hk : Tryd.prog.cellsOf e = k) (hb : 1 ≤ Tryd.prog.bytesOf e)
    (he : ∀ fuel cs x, DataW.trod enc Tryd.prog W base sp held fuel e cs = some x → ∃ r : List Int, r.length = k ∧ cs = r.map (Value.int .i64) ∧ ∀ y ∈ r, I64 y)
    {fuel : Nat} {cs : List Value} {x : DataW H × List MemPlace} (h : DataW.trod enc Tryd.prog W base sp held fuel t cs = some x) (hz : ∀ q ∈ x.1.weights Tryd.prog t, q ≤ reachBytes) :
    ∃ (A : Option Addr) (n c : Nat) (rows : List (List Int)), cs = [.slice A n c] ∧ Rws W A n k rows ∧ n ≤ 140737488351232 ∧ Cp A n c := by
  rcases Deep.open_slice ht h with ⟨rfl, rfl⟩ | ⟨a, len, cap, m, fu, D, Pl, rfl, hba, hl, hm, hmm, rfl, hx⟩
  · exact ⟨none, 0, 0, [], rfl, ⟨rfl, fun j x hj => by simp at hj⟩, by omega, Nat.le_refl _, fun _ => rfl⟩
  · have hle : len ≤ m := by rw [hmm]; split <;> omega
    have hlen : len ≤ 140737488351232 := by
      have h1 := hz ((((List.range len).map D).length + ((List.range (m - len)).map fun j => D (len + j)).length) * Tryd.prog.bytesOf e) (by
        simp only [DataW.weights, ht]
        exact List.mem_cons_self)
      simp only [List.length_map, List.length_range] at h1
      unfold reachBytes at h1
      have := Nat.le_mul_of_pos_right (len + (m - len)) (show 0 < Tryd.prog.bytesOf e by omega)
      omega
    obtain ⟨q, hq⟩ := Deep.choose_lt (α := List Int) (n := len) (p := fun i r => r.length = k ∧ (∀ y ∈ r, I64 y) ∧ ∀ f y, r[f]? = some y → W.cell? ((a.add (i * k)).add f) = some (.int .i64 y)) (fun i hi => by
      obtain ⟨cs', h1, h2⟩ := hx i (by omega)
      obtain ⟨r, hr, rfl, hri⟩ := he _ _ _ h2
      rw [hk] at h1
      obtain ⟨_, _, hc⟩ := World.cells?_some h1
      refine ⟨r, hr, hri, fun f y hf => ?_⟩
      have hfl : f < k := by
        rw [← hr]
        by_cases hfl : f < r.length
        · exact hfl
        · rw [List.getElem?_eq_none (by omega)] at hf; cases hf
      rw [hc f hfl, List.getElem?_map, hf]
      rfl)
    refine ⟨some a, len, cap, (List.range len).map q, rfl, ⟨by simp, fun i r hi => ?_⟩, hlen, hl, (fun h => by cases h)⟩
    have hil : i < len := by
      by_cases hil : i < len
      · exact hil
      · rw [List.getElem?_eq_none (by simp; omega)] at hi; simp at hi
    rw [List.getElem?_map, List.getElem?_range hil] at hi
    simp only [Option.map_some, Option.some.injEq] at hi
    rw [← hi]
    obtain ⟨k0, k1, k2⟩ := hq i hil
    exact ⟨k0, k1, a, rfl, k2⟩
/-- A struct of numbers. -/
theorem ints_open {fs : List Field} {fuel : Nat} {t : TypeId} {cs : List Value} {x : DataW H × List MemPlace} (ht : Tryd.prog.underlying t = some (.struct fs.toArray)) (hf : ∀ (i : Nat) (f : Field), fs[i]? = some f → f.type = 3 ∧ f.offset = i) (hc : Tryd.prog.cellsOf t = fs.length)
    (h : DataW.trod enc Tryd.prog W base sp held fuel t cs = some x) : ∃ r : List Int, r.length = fs.length ∧ cs = r.map (Value.int .i64) ∧ ∀ y ∈ r, I64 y := by
  obtain ⟨xs, n, _, rfl, hl, hlen, hfs⟩ := DataW.trod_struct ht h
  rw [hc] at hl
  obtain ⟨q, hq⟩ := Deep.choose_lt (α := Int) (n := cs.length) (p := fun i y => cs[i]? = some (.int .i64 y) ∧ I64 y) (fun i hi => by
    have hfi : fs[i]? = some fs[i] := List.getElem?_eq_getElem (by omega)
    obtain ⟨e1, e2⟩ := hf i _ hfi
    have h1 := hfs i fs[i] (by simp)
    rw [List.getElem?_eq_getElem (by simp at hlen; omega)] at h1
    rw [e1, e2, cells_int] at h1
    obtain ⟨z, ez, _, wz⟩ := DataW.trod_int Tryd.underlying3 h1
    refine ⟨z, ?_, i64_of_wf wz⟩
    have := congrArg (fun l => l[0]?) ez
    simpa [List.getElem?_take, List.getElem?_drop] using this)
  refine ⟨(List.range cs.length).map q, by simp [hl], ?_, fun y hy => ?_⟩
  · apply List.ext_getElem?
    intro i
    by_cases hi : i < cs.length
    · rw [(hq i hi).1, List.getElem?_map, List.getElem?_map, List.getElem?_range hi]
      rfl
    · rw [List.getElem?_eq_none (by omega), List.getElem?_eq_none (by simp; omega)]
  · obtain ⟨i, hi, rfl⟩ := List.mem_map.1 hy
    exact (hq i (List.mem_range.1 hi)).2
end
end Go.Proofs.YthkohjijppbliaaDoor
namespace Go.Proofs.YthkohjijppbliaaDoor.Cd

/-- An op. -/
structure OpP where
  kd : Int
  t : Int
  si : Int
  t0 : Int
  s0 : Int
  rn : Int
  st : Int
  nn : Int
  seen : List Int
theorem OpP.ext {a b : OpP} (h1 : a.kd = b.kd) (h2 : a.t = b.t) (h3 : a.si = b.si) (h4 : a.t0 = b.t0) (h5 : a.s0 = b.s0) (h6 : a.rn = b.rn) (h7 : a.st = b.st) (h8 : a.nn = b.nn) (h9 : a.seen = b.seen) : a = b := by
  cases a; cases b; simp only at *; subst h1 h2 h3 h4 h5 h6 h7 h8 h9; rfl
def ruOk (r : Int) : Prop := 1 ≤ r ∧ r ≤ 1114111 ∧ ¬ (55296 ≤ r ∧ r ≤ 57343)
def idOk (t s : Int) : Prop := (1 ≤ t ∧ t ≤ 10000) ∧ 0 ≤ s ∧ s ≤ 4
def lessP (t s t' s' : Int) : Prop := t < t' ∨ t = t' ∧ s < s'
def vecOk (l : List Int) : Prop := l.length = 4 ∧ ∀ x ∈ l, 0 ≤ x ∧ x ≤ 2000
instance (r : Int) : Decidable (ruOk r) := by unfold ruOk; infer_instance
instance (t s : Int) : Decidable (idOk t s) := by unfold idOk; infer_instance
instance (t s t' s' : Int) : Decidable (lessP t s t' s') := by unfold lessP; infer_instance
instance (l : List Int) : Decidable (vecOk l) := by unfold vecOk; infer_instance
/-- What stands in an op is its kind's. -/
def kindOk (o : OpP) : Prop := (o.kd = 1 ∧ ruOk o.rn ∧ ((o.t0 = 0 ∧ o.s0 = 0) ∨ idOk o.t0 o.s0 ∧ lessP o.t0 o.s0 o.t o.si)) ∨ (o.kd = 2 ∧ o.rn = 0 ∧ o.t0 = 0 ∧ o.s0 = 0)
/-- An op that may be. -/
def opOk (o : OpP) : Prop := idOk o.t o.si ∧ (1 ≤ o.st ∧ o.st ≤ 4) ∧ (1 ≤ o.nn ∧ o.nn ≤ 2000) ∧ vecOk o.seen ∧ kindOk o
instance (o : OpP) : Decidable (kindOk o) := by unfold kindOk; infer_instance
instance (o : OpP) : Decidable (opOk o) := by unfold opOk; infer_instance

/-- A number's byte, so many ahead of the last. -/
def by1 (n : Int) (k : Nat) : UInt8 := UInt8.ofNat ((n / (256 : Int) ^ k) % 256).toNat
/-- A number's bytes, the highest first. -/
def be : Nat → Int → List UInt8
  | 0, _ => []
  | w + 1, n => by1 n w :: be w n
/-- The number that bytes are. -/
def de (l : List UInt8) : Int := l.foldl (fun n b => n * 256 + b.toNat) 0
theorem be_len : ∀ (w : Nat) (n : Int), (be w n).length = w
  | 0, _ => rfl
  | w + 1, n => by simp [be, be_len w]
theorem by1_toNat (n : Int) (k : Nat) : ((by1 n k).toNat : Int) = (n / (256 : Int) ^ k) % 256 := by
  unfold by1
  rw [UInt8.toNat_ofNat', Nat.mod_eq_of_lt (by omega)]
  omega
theorem de_snoc (l : List UInt8) (b : UInt8) : de (l ++ [b]) = de l * 256 + b.toNat := by simp [de]
theorem u8_of {a b : UInt8} (h : (a.toNat : Int) = b.toNat) : a = b := UInt8.toNat_inj.1 (by omega)
theorem u8_lt (a : UInt8) : (a.toNat : Int) < 256 := by have := a.toNat_lt; omega
theorem de_be1 {n : Int} (h : 0 ≤ n ∧ n < 256) : de (be 1 n) = n := by
  simp only [be, de, List.foldl_cons, List.foldl_nil, by1_toNat, Int.pow_zero, Int.ediv_one]
  omega
theorem de_be2 {n : Int} (h : 0 ≤ n ∧ n < 65536) : de (be 2 n) = n := by
  simp only [be, de, List.foldl_cons, List.foldl_nil, by1_toNat, Int.pow_zero, Int.ediv_one, show (256 : Int) ^ 1 = 256 from rfl]
  omega
theorem de_be3 {n : Int} (h : 0 ≤ n ∧ n < 16777216) : de (be 3 n) = n := by
  simp only [be, de, List.foldl_cons, List.foldl_nil, by1_toNat, Int.pow_zero, Int.ediv_one, show (256 : Int) ^ 1 = 256 from rfl, show (256 : Int) ^ 2 = 65536 from rfl]
  omega
theorem be_de1 (a : UInt8) : be 1 (de [a]) = [a] := by
  have h1 := u8_lt a
  have e1 : by1 (de [a]) 0 = a := u8_of (by
    simp only [by1_toNat, de, List.foldl_cons, List.foldl_nil, Int.pow_zero, Int.ediv_one]; omega)
  simp only [be, e1]
theorem be_de2 (a b : UInt8) : be 2 (de [a, b]) = [a, b] := by
  have h1 := u8_lt a
  have h2 := u8_lt b
  have e1 : by1 (de [a, b]) 1 = a := u8_of (by
    simp only [by1_toNat, de, List.foldl_cons, List.foldl_nil, show (256 : Int) ^ 1 = 256 from rfl]; omega)
  have e2 : by1 (de [a, b]) 0 = b := u8_of (by
    simp only [by1_toNat, de, List.foldl_cons, List.foldl_nil, Int.pow_zero, Int.ediv_one]; omega)
  simp only [be, e1, e2]
theorem be_de3 (a b c : UInt8) : be 3 (de [a, b, c]) = [a, b, c] := by
  have h1 := u8_lt a
  have h2 := u8_lt b
  have h3 := u8_lt c
  have e1 : by1 (de [a, b, c]) 2 = a := u8_of (by
    simp only [by1_toNat, de, List.foldl_cons, List.foldl_nil, show (256 : Int) ^ 2 = 65536 from rfl]; omega)
  have e2 : by1 (de [a, b, c]) 1 = b := u8_of (by
    simp only [by1_toNat, de, List.foldl_cons, List.foldl_nil, show (256 : Int) ^ 1 = 256 from rfl]; omega)
  have e3 : by1 (de [a, b, c]) 0 = c := u8_of (by
    simp only [by1_toNat, de, List.foldl_cons, List.foldl_nil, Int.pow_zero, Int.ediv_one]; omega)
  simp only [be, e1, e2, e3]
/-- An op's bytes ahead of what was seen. -/
def encH (o : OpP) : List UInt8 := be 1 o.kd ++ be 2 o.t ++ be 1 o.si ++ be 2 o.t0 ++ be 1 o.s0 ++ be 3 o.rn ++ be 1 o.st ++ be 2 o.nn
def encS (l : List Int) : List UInt8 := l.flatMap (be 2)
/-- An op's bytes. -/
def enc (o : OpP) : List UInt8 := encH o ++ encS o.seen
/-- The op that bytes are. -/
def dec (s : List UInt8) : OpP :=
  ⟨de (s.take 1), de ((s.drop 1).take 2), de ((s.drop 3).take 1), de ((s.drop 4).take 2), de ((s.drop 6).take 1), de ((s.drop 7).take 3), de ((s.drop 10).take 1), de ((s.drop 11).take 2),
    [de ((s.drop 13).take 2), de ((s.drop 15).take 2), de ((s.drop 17).take 2), de ((s.drop 19).take 2)]⟩
theorem encH_len (o : OpP) : (encH o).length = 13 := by simp [encH, be_len]
theorem encS_len : ∀ l : List Int, (encS l).length = 2 * l.length
  | [] => rfl
  | x :: l => by
    have := encS_len l
    unfold encS at *
    rw [List.flatMap_cons, List.length_append, be_len, this, List.length_cons]
    omega
theorem enc_len {o : OpP} (h : o.seen.length = 4) : (enc o).length = 21 := by
  rw [enc, List.length_append, encH_len, encS_len, h]
theorem encS_snoc (l : List Int) (x : Int) : encS (l ++ [x]) = encS l ++ be 2 x := by simp [encS]
/-- Whatever bytes are, they are its own. -/
theorem enc_dec {s : List UInt8} (h : s.length = 21) : enc (dec s) = s := by
  match s, h with
  | [b0, b1, b2, b3, b4, b5, b6, b7, b8, b9, b10, b11, b12, b13, b14, b15, b16, b17, b18, b19, b20], _ =>
    simp only [dec, enc, encH, encS, List.take_succ_cons, List.take_zero, List.drop_succ_cons, List.drop_zero, List.flatMap_cons, List.flatMap_nil, be_de1, be_de2, be_de3]
    rfl
/-- An op's bytes are it. -/
theorem dec_enc {o : OpP} (h : opOk o) : dec (enc o) = o := by
  obtain ⟨⟨ht, hs⟩, hst, hnn, ⟨hl, hx⟩, hk⟩ := h
  have hk2 : (0 ≤ o.kd ∧ o.kd < 256) ∧ (0 ≤ o.t0 ∧ o.t0 < 65536) ∧ (0 ≤ o.s0 ∧ o.s0 < 256) ∧ (0 ≤ o.rn ∧ o.rn < 16777216) := by
    rcases hk with ⟨e, ⟨r1, r2, _⟩, ⟨e1, e2⟩ | ⟨⟨i1, i2⟩, _⟩⟩ | ⟨e, e1, e2, e3⟩ <;> omega
  obtain ⟨k1, k2, k3, k4⟩ := hk2
  obtain ⟨kd, t, si, t0, s0, rn, st, nn, seen⟩ := o
  simp only at *
  match seen, hl with
  | [x0, x1, x2, x3], _ =>
    have q0 := hx x0 (by simp)
    have q1 := hx x1 (by simp)
    have q2 := hx x2 (by simp)
    have q3 := hx x3 (by simp)
    have d1 : ∀ n, de [by1 n 0] = de (be 1 n) := fun n => rfl
    have d2 : ∀ n, de [by1 n 1, by1 n 0] = de (be 2 n) := fun n => rfl
    have d3 : ∀ n, de [by1 n 2, by1 n 1, by1 n 0] = de (be 3 n) := fun n => rfl
    simp only [dec, enc, encH, encS, be, List.flatMap_cons, List.flatMap_nil, List.cons_append, List.nil_append, List.append_nil, List.take_succ_cons, List.take_zero, List.drop_succ_cons, List.drop_zero]
    simp only [d1, d2, d3]
    rw [de_be1 k1, de_be2 (by omega), de_be1 (by omega), de_be2 k2, de_be1 k3, de_be3 k4, de_be1 (by omega), de_be2 (by omega), de_be2 (by omega), de_be2 (by omega), de_be2 (by omega), de_be2 (by omega)]
/-- As bytes: a string. -/
def encB (o : OpP) : ByteArray := ⟨(enc o).toArray⟩
theorem encB_size {o : OpP} (h : o.seen.length = 4) : (encB o).size = 21 := by
  have := enc_len h
  simp [encB, ByteArray.size, this]
theorem encB_list (o : OpP) : (encB o).data.toList = enc o := by simp [encB]
theorem ba_ext {a b : ByteArray} (h : a.data.toList = b.data.toList) : a = b := by
  cases a; cases b
  simp only [ByteArray.mk.injEq]
  exact Array.toList_inj.1 h
/-- What bytes are, if they are any op's. -/
def takeO (s : ByteArray) : Option OpP := if s.size = 21 ∧ opOk (dec s.data.toList) then some (dec s.data.toList) else none
theorem takeO_enc {o : OpP} (h : opOk o) : takeO (encB o) = some o := by
  unfold takeO
  rw [encB_list, dec_enc h, encB_size h.2.2.2.1.1, if_pos ⟨rfl, h⟩]
theorem takeO_some {s : ByteArray} {o : OpP} (h : takeO s = some o) : opOk o ∧ s = encB o := by
  unfold takeO at h
  split at h
  · next hc =>
    injection h with h
    subst h
    exact ⟨hc.2, ba_ext (by rw [encB_list, enc_dec (by rw [Array.length_toList]; exact hc.1)])⟩
  · cases h
theorem takeO_short {s : ByteArray} (h : s.size ≠ 21) : takeO s = none := by
  unfold takeO
  rw [if_neg (fun hc => h hc.1)]
end Go.Proofs.YthkohjijppbliaaDoor.Cd
namespace Go.Proofs.YthkohjijppbliaaDoor
open Go Go.RowKit Go.ChangeShapes Go.WideShapes Go.ChangeAt

theorem cells_op : Tryd.prog.cellsOf 42 = 9 := by kernel_rfl
theorem cells_id : Tryd.prog.cellsOf 39 = 2 := by kernel_rfl
theorem cells_ops : Tryd.prog.cellsOf 23 = 1 := by kernel_rfl
theorem cells_ints : Tryd.prog.cellsOf 40 = 1 := by kernel_rfl
theorem bytes_op : 1 ≤ Tryd.prog.bytesOf 42 := by rw [show Tryd.prog.bytesOf 42 = 88 by kernel_rfl]; decide
/-- An op, as it lies in memory. -/
structure OpS where
  o : Cd.OpP
  A : Option Addr
  n : Nat
  c : Nat
instance : Inhabited OpS := ⟨⟨⟨0, 0, 0, 0, 0, 0, 0, 0, []⟩, none, 0, 0⟩⟩
def OpS.vals (b : OpS) : List Value := [.int .i64 b.o.kd, .int .i64 b.o.t, .int .i64 b.o.si, .int .i64 b.o.t0, .int .i64 b.o.s0, .int .i64 b.o.rn, .int .i64 b.o.st, .int .i64 b.o.nn, .slice b.A b.n b.c]
def I64s (o : Cd.OpP) : Prop := I64 o.kd ∧ I64 o.t ∧ I64 o.si ∧ I64 o.t0 ∧ I64 o.s0 ∧ I64 o.rn ∧ I64 o.st ∧ I64 o.nn
/-- An op reads as it should. -/
structure OpOk (w : World) (b : OpS) : Prop where
  seen : Nums w b.A b.n b.o.seen
  nums : ∀ x ∈ b.o.seen, I64 x
  n : b.n ≤ 17592186044416
  cap : b.n ≤ b.c
  ints : I64s b.o
theorem OpOk.kept {S : Nat → Prop} {w w' : World} {b : OpS} (h : OpOk w b) (hk : Kept S w w') (hs : ∀ a, b.A = some a → ¬ S a.block) : OpOk w' b := ⟨h.seen.kept hk hs, h.nums, h.n, h.cap, h.ints⟩
/-- Where an op's cells are. -/
structure Op9 (w : World) (ad : Addr) (b : OpS) : Prop where
  c0 : w.cell? ad = some (.int .i64 b.o.kd)
  c1 : w.cell? ⟨ad.block, ad.off + 1, none⟩ = some (.int .i64 b.o.t)
  c2 : w.cell? ⟨ad.block, ad.off + 2, none⟩ = some (.int .i64 b.o.si)
  c3 : w.cell? ⟨ad.block, ad.off + 3, none⟩ = some (.int .i64 b.o.t0)
  c4 : w.cell? ⟨ad.block, ad.off + 4, none⟩ = some (.int .i64 b.o.s0)
  c5 : w.cell? ⟨ad.block, ad.off + 5, none⟩ = some (.int .i64 b.o.rn)
  c6 : w.cell? ⟨ad.block, ad.off + 6, none⟩ = some (.int .i64 b.o.st)
  c7 : w.cell? ⟨ad.block, ad.off + 7, none⟩ = some (.int .i64 b.o.nn)
  c8 : w.cell? ⟨ad.block, ad.off + 8, none⟩ = some (.slice b.A b.n b.c)
theorem Op9.kept {S : Nat → Prop} {w w' : World} {ad : Addr} {b : OpS} (h : Op9 w ad b) (hk : Kept S w w') (hs : ¬ S ad.block) : Op9 w' ad b :=
  ⟨cell_kept hk h.c0 hs, cell_kept hk h.c1 hs, cell_kept hk h.c2 hs, cell_kept hk h.c3 hs, cell_kept hk h.c4 hs, cell_kept hk h.c5 hs, cell_kept hk h.c6 hs, cell_kept hk h.c7 hs, cell_kept hk h.c8 hs⟩
/-- A slice of ops. -/
def OpsM (w : World) (A : Option Addr) (n : Nat) (al : List OpS) : Prop :=
  al.length = n ∧ ∀ k b, al[k]? = some b → (∃ ad, A = some ad ∧ Op9 w (ad.add (k * 9)) b) ∧ OpOk w b
theorem add_blk (a : Addr) (j : Nat) : (a.add j).block = a.block := by unfold Addr.add; split <;> rfl
theorem OpsM.kept {S : Nat → Prop} {w w' : World} {A : Option Addr} {n : Nat} {al : List OpS} (h : OpsM w A n al) (hk : Kept S w w') (hs : ∀ a, A = some a → ¬ S a.block) (hb : ∀ b ∈ al, ∀ a, b.A = some a → ¬ S a.block) : OpsM w' A n al := by
  refine ⟨h.1, fun j b hj => ?_⟩
  obtain ⟨⟨ad, e, r⟩, ho⟩ := h.2 j b hj
  exact ⟨⟨ad, e, r.kept hk (by rw [add_blk]; exact hs ad e)⟩, ho.kept hk (hb b (List.mem_of_getElem? hj))⟩
theorem OpsM.at_ {w : World} {A : Option Addr} {n : Nat} {al : List OpS} (h : OpsM w A n al) {k : Nat} (hk : k < n) : ∃ ad b, A = some ad ∧ al[k]? = some b ∧ Op9 w (ad.add (k * 9)) b ∧ OpOk w b := by
  have hl : k < al.length := by rw [h.1]; exact hk
  obtain ⟨⟨ad, e, r⟩, ho⟩ := h.2 k al[k] (List.getElem?_eq_getElem hl)
  exact ⟨ad, al[k], e, List.getElem?_eq_getElem hl, r, ho⟩

section
variable {H : Type} {enc : TypeId × Value → H} {P : Program} {W : World} {base : Nat} {sp : Nat → Bool} {held : Bool}
theorem trod_struct7 {t : TypeId} {f0 f1 f2 f3 f4 f5 f6 : Field} {fuel : Nat} {cs : List Value} {x : DataW H × List MemPlace} (ht : P.underlying t = some (.struct #[f0, f1, f2, f3, f4, f5, f6])) (h : DataW.trod enc P W base sp held fuel t cs = some x) :
    ∃ y0 y1 y2 y3 y4 y5 y6 n, x.1 = .agg [y0.1, y1.1, y2.1, y3.1, y4.1, y5.1, y6.1] ∧ cs.length = P.cellsOf t ∧ DataW.trod enc P W base sp held n f0.type ((cs.drop f0.offset).take (P.cellsOf f0.type)) = some y0 ∧
      DataW.trod enc P W base sp held n f1.type ((cs.drop f1.offset).take (P.cellsOf f1.type)) = some y1 ∧ DataW.trod enc P W base sp held n f2.type ((cs.drop f2.offset).take (P.cellsOf f2.type)) = some y2 ∧
      DataW.trod enc P W base sp held n f3.type ((cs.drop f3.offset).take (P.cellsOf f3.type)) = some y3 ∧ DataW.trod enc P W base sp held n f4.type ((cs.drop f4.offset).take (P.cellsOf f4.type)) = some y4 ∧
      DataW.trod enc P W base sp held n f5.type ((cs.drop f5.offset).take (P.cellsOf f5.type)) = some y5 ∧ DataW.trod enc P W base sp held n f6.type ((cs.drop f6.offset).take (P.cellsOf f6.type)) = some y6 := by
  obtain ⟨xs, n, _, rfl, hl, hlen, hf⟩ := DataW.trod_struct ht h
  match xs, hlen with
  | [y0, y1, y2, y3, y4, y5, y6], _ => exact ⟨y0, y1, y2, y3, y4, y5, y6, n, by simp, hl, by simpa using hf 0 f0 rfl, by simpa using hf 1 f1 rfl, by simpa using hf 2 f2 rfl, by simpa using hf 3 f3 rfl, by simpa using hf 4 f4 rfl, by simpa using hf 5 f5 rfl, by simpa using hf 6 f6 rfl⟩
set_option maxRecDepth 100000 in
theorem nums_open {fuel : Nat} {cs : List Value} {x : DataW H × List MemPlace} (h : DataW.trod enc Tryd.prog W base sp held fuel 40 cs = some x) (hz : ∀ q ∈ x.1.weights Tryd.prog 40, q ≤ reachBytes) :
    ∃ (A : Option Addr) (n c : Nat) (xs : List Int), cs = [.slice A n c] ∧ Nums W A n xs ∧ (∀ x ∈ xs, I64 x) ∧ n ≤ 17592186044416 ∧ n ≤ c := by
  rcases Deep.open_slice1 Tryd.underlying40 cells_int h with ⟨rfl, rfl⟩ | ⟨a, len, cap, m, fu, V, D, Pl, rfl, hb, hl, hm, hmm, rfl, hx⟩
  · exact ⟨none, 0, 0, [], rfl, ⟨rfl, fun j x hj => by simp at hj⟩, (fun x hx => by simp at hx), by omega, Nat.le_refl _⟩
  · have hle : len ≤ m := by rw [hmm]; split <;> omega
    have hlen : len ≤ 17592186044416 := by
      have h1 := hz ((((List.range len).map D).length + ((List.range (m - len)).map fun j => D (len + j)).length) * Tryd.prog.bytesOf 3) (by
        simp only [DataW.weights, Tryd.underlying40]
        exact List.mem_cons_self)
      simp only [List.length_map, List.length_range, bytes_int] at h1
      unfold reachBytes at h1
      omega
    obtain ⟨q, hq⟩ := Deep.choose_lt (α := Int) (n := len) (p := fun i y => W.cell? (a.add i) = some (.int .i64 y) ∧ I64 y) (fun i hi => by
      obtain ⟨h1, h2⟩ := hx i (by omega)
      obtain ⟨z, e1, _, wz⟩ := DataW.trod_int Tryd.underlying3 h2
      simp only [List.cons.injEq, and_true] at e1
      exact ⟨z, by rw [h1, e1], i64_of_wf wz⟩)
    refine ⟨some a, len, cap, (List.range len).map q, rfl, ⟨by simp, fun j x hj => ⟨a, rfl, ?_⟩⟩, fun y hy => ?_, hlen, hl⟩
    · have hjl : j < len := by
        by_cases hjl : j < len
        · exact hjl
        · rw [List.getElem?_eq_none (by simp; omega)] at hj; simp at hj
      rw [List.getElem?_map, List.getElem?_range hjl] at hj
      simp only [Option.map_some, Option.some.injEq] at hj
      rw [← hj]
      exact (hq j hjl).1
    · obtain ⟨i, hi, rfl⟩ := List.mem_map.1 hy
      exact (hq i (List.mem_range.1 hi)).2
theorem id_open {fuel : Nat} {cs : List Value} {x : DataW H × List MemPlace} (h : DataW.trod enc Tryd.prog W base sp held fuel 39 cs = some x) : ∃ a b : Int, cs = [.int .i64 a, .int .i64 b] ∧ I64 a ∧ I64 b := by
  obtain ⟨r, hl, rfl, hi⟩ := ints_open (fs := _) Tryd.underlying39 (by
    intro i f hf
    match i, hf with
    | 0, hf => cases hf; exact ⟨rfl, rfl⟩
    | 1, hf => cases hf; exact ⟨rfl, rfl⟩
    | i + 2, hf => simp at hf) cells_id h
  match r, hl with
  | [a, b], _ => exact ⟨a, b, rfl, hi a (by simp), hi b (by simp)⟩
set_option maxRecDepth 100000 in
theorem op_open {fuel : Nat} {cs : List Value} {x : DataW H × List MemPlace} (h : DataW.trod enc Tryd.prog W base sp held fuel 42 cs = some x) (hz : ∀ q ∈ x.1.weights Tryd.prog 42, q ≤ reachBytes) :
    ∃ b : OpS, cs = b.vals ∧ OpOk W b := by
  obtain ⟨y0, y1, y2, y3, y4, y5, y6, n, hx, hl, h0, h1, h2, h3, h4, h5, h6⟩ := trod_struct7 Tryd.underlying42 h
  rw [hx] at hz
  clear hx
  rw [cells_op] at hl
  match cs, hl with
  | [c0, c1, c2, c3, c4, c5, c6, c7, c8], _ =>
    simp only [cells_int, cells_id, cells_ints, List.drop_zero, List.drop_succ_cons, List.take_succ_cons, List.take_zero] at h0 h1 h2 h3 h4 h5 h6
    obtain ⟨z0, e0, _, w0⟩ := DataW.trod_int Tryd.underlying3 h0
    obtain ⟨t, si, e1, wt, wsi⟩ := id_open h1
    obtain ⟨t0, s0, e2, wt0, ws0⟩ := id_open h2
    obtain ⟨z3, e3, _, w3⟩ := DataW.trod_int Tryd.underlying3 h3
    obtain ⟨z4, e4, _, w4⟩ := DataW.trod_int Tryd.underlying3 h4
    obtain ⟨z5, e5, _, w5⟩ := DataW.trod_int Tryd.underlying3 h5
    obtain ⟨A, m, c, xs, e6, hN, hI, hm, hmc⟩ := nums_open h6 (fun q hq => hz q (by
      simp only [DataW.weights, Tryd.underlying42, List.map_cons, List.map_nil, DataW.weightsEach, List.mem_append]
      exact Or.inr (Or.inr (Or.inr (Or.inr (Or.inr (Or.inr (Or.inl hq))))))))
    simp only [List.cons.injEq, and_true] at e0 e1 e2 e3 e4 e5 e6
    obtain ⟨g1, g2⟩ := e1
    obtain ⟨g3, g4⟩ := e2
    exact ⟨⟨⟨z0, t, si, t0, s0, z3, z4, z5, xs⟩, A, m, c⟩, by unfold OpS.vals; rw [e0, g1, g2, g3, g4, e3, e4, e5, e6], hN, hI, hm, hmc, i64_of_wf w0, wt, wsi, wt0, ws0, i64_of_wf w3, i64_of_wf w4, i64_of_wf w5⟩
set_option maxRecDepth 100000 in
theorem ops_open {fuel : Nat} {cs : List Value} {x : DataW H × List MemPlace} (h : DataW.trod enc Tryd.prog W base sp held fuel 23 cs = some x) (hz : ∀ q ∈ x.1.weights Tryd.prog 23, q ≤ reachBytes) :
    ∃ (A : Option Addr) (n c : Nat) (al : List OpS), cs = [.slice A n c] ∧ OpsM W A n al ∧ n ≤ 140737488351232 ∧ Cp A n c := by
  rcases Deep.open_slice Tryd.underlying23 h with ⟨rfl, rfl⟩ | ⟨a, len, cap, m, fu, D, Pl, rfl, hb, hl, hm, hmm, rfl, hx⟩
  · exact ⟨none, 0, 0, [], rfl, ⟨rfl, fun j x hj => by simp at hj⟩, by omega, Nat.le_refl _, fun _ => rfl⟩
  · have hle : len ≤ m := by rw [hmm]; split <;> omega
    have hw : DataW.weights Tryd.prog 23 (DataW.slice ((List.range len).map D) ((List.range (m - len)).map fun j => D (len + j))) =
        (((List.range len).map D).length + ((List.range (m - len)).map fun j => D (len + j)).length) * Tryd.prog.bytesOf 42 :: (DataW.weightsAll Tryd.prog 42 ((List.range len).map D) ++ DataW.weightsAll Tryd.prog 42 ((List.range (m - len)).map fun j => D (len + j))) := by
      simp only [DataW.weights, Tryd.underlying23]
    have hlen : len ≤ 140737488351232 := by
      have h1 := hz _ (by rw [hw]; exact List.mem_cons_self)
      simp only [List.length_map, List.length_range] at h1
      unfold reachBytes at h1
      have := Nat.le_mul_of_pos_right (len + (m - len)) (show 0 < Tryd.prog.bytesOf 42 from bytes_op)
      omega
    obtain ⟨q, hq⟩ := Deep.choose_lt (α := OpS) (n := len) (p := fun k b => Op9 W (a.add (k * 9)) b ∧ OpOk W b) (fun i hi => by
      obtain ⟨cs', h1, h2⟩ := hx i (by omega)
      rw [cells_op] at h1
      obtain ⟨b, rfl, hN⟩ := op_open h2 (fun q hq => hz q (by
        rw [hw]
        exact List.mem_cons_of_mem _ (List.mem_append_left _ (mem_weightsAll (List.mem_map.2 ⟨i, List.mem_range.2 hi, rfl⟩) hq))))
      obtain ⟨_, _, hc⟩ := World.cells?_some h1
      have g0 := hc 0 (by omega)
      have g1 := hc 1 (by omega)
      have g2 := hc 2 (by omega)
      have g3 := hc 3 (by omega)
      have g4 := hc 4 (by omega)
      have g5 := hc 5 (by omega)
      have g6 := hc 6 (by omega)
      have g7 := hc 7 (by omega)
      have g8 := hc 8 (by omega)
      rw [addr_far _ 1 (by omega)] at g1
      rw [addr_far _ 2 (by omega)] at g2
      rw [addr_far _ 3 (by omega)] at g3
      rw [addr_far _ 4 (by omega)] at g4
      rw [addr_far _ 5 (by omega)] at g5
      rw [addr_far _ 6 (by omega)] at g6
      rw [addr_far _ 7 (by omega)] at g7
      rw [addr_far _ 8 (by omega)] at g8
      exact ⟨b, ⟨by simpa [Addr.add, OpS.vals] using g0, g1, g2, g3, g4, g5, g6, g7, g8⟩, hN⟩)
    refine ⟨some a, len, cap, (List.range len).map q, rfl, ⟨by simp, fun k b hk => ?_⟩, hlen, hl, fun h => by cases h⟩
    have hkl : k < len := by
      by_cases hkl : k < len
      · exact hkl
      · rw [List.getElem?_eq_none (by simp; omega)] at hk; simp at hk
    rw [List.getElem?_map, List.getElem?_range hkl] at hk
    simp only [Option.map_some, Option.some.injEq] at hk
    rw [← hk]
    obtain ⟨k0, k1⟩ := hq k hkl
    exact ⟨⟨a, rfl, k0⟩, k1⟩
end
end Go.Proofs.YthkohjijppbliaaDoor
