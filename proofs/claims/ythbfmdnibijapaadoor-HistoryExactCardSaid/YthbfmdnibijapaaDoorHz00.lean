/-
  PLAIN LAWS ON UTF-8: the runes of a list of bytes (the model's own decoder, step by step), the bytes of a list of runes (the model's own encoder), and that they undo each other where the bytes are valid. No program is named here.
  WHAT A CALL LEAVES: which blocks may have turned; the cells of old memory read as they did.
  AN ASK, OPENED: what a parameter of that type is, cell by cell, and how long its texts may be.
-/
import Derived.Lib.ValidU
import Derived.Lib.ValidLaws
import Derived.Lib.TrimUEq
import Derived.Laws.Cover4
import Derived.Laws.IdiomStrings
import Derived.Test.YthbfmdnibijapaaDoorChecked
import Derived.WalkKit
import Derived.Deep.QuietTactic
import Derived.BigQuiet
import Derived.Outline
import Derived.StillTailTactics
import Derived.Laws.CopyOwn
import Derived.IntWalk
import Derived.Lib.Hide
import Derived.Lib.MinMax
import Derived.Deep.RegionLaw
import Derived.BigRegion
import Derived.RegionTactic
import Derived.WalkSpells
import Derived.LoopTactic
import Derived.ProofKit
import Derived.SizedLaws
import Derived.Deep.Slices
import Derived.Lib.SmallJoins
set_option linter.unusedVariables false
namespace Go.Proofs.YthbfmdnibijapaaDoor.Utf
open Go Go.Lib

/-- The runes of bytes, at most n of them. -/
def runesN : Nat → List UInt8 → List Int
  | 0, _ => []
  | n + 1, l => if l = [] then [] else ((decodeL l).1 : Int) :: runesN n (l.drop (decodeL l).2)
/-- The runes of bytes. -/
def runes (l : List UInt8) : List Int := runesN l.length l
/-- A rune's bytes. -/
def enc (n : Int) : List UInt8 := (Utf8.encode n).data.toList
/-- The bytes of runes. -/
def bytes : List Int → List UInt8
  | [] => []
  | n :: r => enc n ++ bytes r

theorem runesN_nil : ∀ n, runesN n [] = []
  | 0 => rfl
  | _ + 1 => by simp [runesN]
theorem runesN_fuel : ∀ (n m : Nat) (l : List UInt8), l.length ≤ n → l.length ≤ m → runesN n l = runesN m l
  | 0, m, l, hn, _ => by
    have : l = [] := List.eq_nil_of_length_eq_zero (by omega)
    subst this
    rw [runesN_nil, runesN_nil]
  | n + 1, 0, l, _, hm => by
    have : l = [] := List.eq_nil_of_length_eq_zero (by omega)
    subst this
    rw [runesN_nil, runesN_nil]
  | n + 1, m + 1, l, hn, hm => by
    unfold runesN
    by_cases hne : l = []
    · simp [hne]
    · have hw := decodeL_width l
      have hl : 0 < l.length := List.length_pos_iff.2 hne
      rw [if_neg hne, if_neg hne, runesN_fuel n m (l.drop (decodeL l).2) (by rw [List.length_drop]; omega) (by rw [List.length_drop]; omega)]
theorem runes_nil : runes [] = [] := rfl
theorem runes_step (l : List UInt8) (hne : l ≠ []) : runes l = ((decodeL l).1 : Int) :: runes (l.drop (decodeL l).2) := by
  have hl : 0 < l.length := List.length_pos_iff.2 hne
  have hw := decodeL_width l
  obtain ⟨n, hn⟩ : ∃ n, l.length = n + 1 := ⟨l.length - 1, by omega⟩
  unfold runes
  rw [hn]
  show (if l = [] then [] else _) = _
  rw [if_neg hne, runesN_fuel n (l.drop (decodeL l).2).length _ (by rw [List.length_drop]; omega) (Nat.le_refl _)]
theorem runes_length_le : ∀ (n : Nat) (l : List UInt8), l.length ≤ n → (runes l).length ≤ l.length
  | 0, l, h => by
    have : l = [] := List.eq_nil_of_length_eq_zero (by omega)
    subst this
    simp [runes_nil]
  | n + 1, l, h => by
    by_cases hne : l = []
    · subst hne; simp [runes_nil]
    · have hw := decodeL_width l
      have hl : 0 < l.length := List.length_pos_iff.2 hne
      have ih := runes_length_le n (l.drop (decodeL l).2) (by rw [List.length_drop]; omega)
      rw [runes_step l hne, List.length_cons]
      rw [List.length_drop] at ih
      omega
theorem runes_length (l : List UInt8) : (runes l).length ≤ l.length := runes_length_le l.length l (Nat.le_refl _)

/-- The model's own conversion of a string to runes. -/
theorem runesFrom_eq (s : ByteArray) : ∀ (bound i : Nat) (acc : Array Value), s.size ≤ i + bound →
    Conv.runesFrom s bound i acc = acc ++ ((runes (s.data.toList.drop i)).map (Value.int .i32)).toArray
  | 0, i, acc, h => by
    have hd : s.data.toList.drop i = [] := List.drop_eq_nil_of_le (by have := Lib.size_eq s; omega)
    simp [Conv.runesFrom, hd, runes_nil]
  | bound + 1, i, acc, h => by
    unfold Conv.runesFrom
    have hs := Lib.size_eq s
    by_cases hi : i < s.size
    · have hne : s.data.toList.drop i ≠ [] := by
        intro e
        have := congrArg List.length e
        rw [List.length_drop] at this
        simp at this
        have hz : s.data.size = s.size := rfl
        omega
      have hw := decodeL_width (s.data.toList.drop i)
      rw [decodeL_drop] at hw
      rw [if_pos hi]
      show Conv.runesFrom s bound (i + (Utf8.decode s i).2) (acc.push (Value.int .i32 (Int.ofNat (Utf8.decode s i).1))) = _
      rw [runesFrom_eq s bound (i + (Utf8.decode s i).2) _ (by omega), runes_step _ hne, decodeL_drop, List.drop_drop]
      simp
    · have hd : s.data.toList.drop i = [] := List.drop_eq_nil_of_le (by omega)
      rw [if_neg hi, hd]
      simp [runes_nil]
theorem convRunes_eq (s : ByteArray) : Conv.runesFrom s s.size 0 #[] = ((runes s.data.toList).map (Value.int .i32)).toArray := by
  rw [runesFrom_eq s s.size 0 #[] (by omega)]
  simp

theorem foldl_bytes (ns : List Int) : ∀ s : ByteArray, (ns.foldl (fun r n => r ++ Utf8.encode n) s).data.toList = s.data.toList ++ bytes ns := by
  induction ns with
  | nil => intro s; simp [bytes]
  | cons n ns ih => intro s; rw [List.foldl_cons, ih]; simp [bytes, enc]
/-- The model's own conversion of runes to a string. -/
theorem runesBytes_eq (ns : List Int) : (runesBytes ns).data.toList = bytes ns := by
  unfold runesBytes
  rw [foldl_bytes]
  simp
theorem bytes_append (a b : List Int) : bytes (a ++ b) = bytes a ++ bytes b := by
  induction a with
  | nil => rfl
  | cons n a ih => simp [bytes, ih]

theorem toNat_ofNat {n : Nat} (h : n < 256) : (UInt8.ofNat n).toNat = n := by simp only [UInt8.toNat_ofNat']; omega

set_option maxHeartbeats 1000000 in
set_option maxRecDepth 100000 in
/-- At the head of bytes stands the rune that was encoded there. -/
theorem decodeL_enc (n : Int) (h : Utf8.valid n = true) (t : List UInt8) : decodeL (enc n ++ t) = (n.toNat, (enc n).length) := by
  have hv : (0 ≤ n ∧ n < 55296) ∨ (57344 ≤ n ∧ n ≤ 1114111) := by simpa [Utf8.valid] using h
  obtain ⟨c, rfl⟩ := Int.eq_ofNat_of_zero_le (show 0 ≤ n by omega)
  rw [decodeL_N]
  unfold enc Utf8.encode
  simp only [h, if_true, Int.toNat_natCast]
  by_cases h1 : c < 128
  · rw [if_pos h1]
    have e0 : (UInt8.ofNat c).toNat = c := toNat_ofNat (by omega)
    simp only [List.cons_append, List.nil_append, List.length_cons, List.getD_cons_zero, List.getD_cons_succ]
    rw [e0]
    unfold decodeN
    rw [if_pos h1]
    rfl
  · rw [if_neg h1]
    by_cases h2 : c < 2048
    · rw [if_pos h2]
      simp only [List.cons_append, List.nil_append, List.length_cons, List.getD_cons_zero, List.getD_cons_succ]
      have e0 : (UInt8.ofNat (192 + c / 64)).toNat = 192 + c / 64 := toNat_ofNat (by omega)
      have e1 : (UInt8.ofNat (128 + c % 64)).toNat = 128 + c % 64 := toNat_ofNat (by omega)
      rw [e0, e1]
      unfold decodeN
      rw [if_neg (by omega), if_pos ⟨by omega, by omega, by omega⟩, if_pos (by omega)]
      exact Prod.ext (by show _ = c; omega) rfl
    · rw [if_neg h2]
      by_cases h3 : c < 65536
      · rw [if_pos h3]
        simp only [List.cons_append, List.nil_append, List.length_cons, List.getD_cons_zero, List.getD_cons_succ]
        have e0 : (UInt8.ofNat (224 + c / 4096)).toNat = 224 + c / 4096 := toNat_ofNat (by omega)
        have e1 : (UInt8.ofNat (128 + c / 64 % 64)).toNat = 128 + c / 64 % 64 := toNat_ofNat (by omega)
        have e2 : (UInt8.ofNat (128 + c % 64)).toNat = 128 + c % 64 := toNat_ofNat (by omega)
        rw [e0, e1, e2]
        unfold decodeN
        rw [if_neg (by omega), if_neg (by omega), if_pos ⟨by omega, ⟨by omega, by omega⟩, by omega, by omega⟩, if_pos (by omega)]
        exact Prod.ext (by show _ = c; omega) rfl
      · rw [if_neg h3]
        simp only [List.cons_append, List.nil_append, List.length_cons, List.getD_cons_zero, List.getD_cons_succ]
        have e0 : (UInt8.ofNat (240 + c / 262144)).toNat = 240 + c / 262144 := toNat_ofNat (by omega)
        have e1 : (UInt8.ofNat (128 + c / 4096 % 64)).toNat = 128 + c / 4096 % 64 := toNat_ofNat (by omega)
        have e2 : (UInt8.ofNat (128 + c / 64 % 64)).toNat = 128 + c / 64 % 64 := toNat_ofNat (by omega)
        have e3 : (UInt8.ofNat (128 + c % 64)).toNat = 128 + c % 64 := toNat_ofNat (by omega)
        rw [e0, e1, e2, e3]
        unfold decodeN
        rw [if_neg (by omega), if_neg (by omega), if_neg (by omega), if_pos ⟨by omega, ⟨by omega, by omega⟩, ⟨by omega, by omega⟩, by omega, by omega⟩, if_pos (by omega)]
        exact Prod.ext (by show _ = c; omega) rfl
theorem enc_length (n : Int) : 1 ≤ (enc n).length ∧ (enc n).length ≤ 4 := by
  unfold enc Utf8.encode
  simp only
  repeat' split
  all_goals simp
theorem enc_ne (n : Int) (t : List UInt8) : enc n ++ t ≠ [] := by
  have := enc_length n
  intro e
  have e := congrArg List.length e
  rw [List.length_append, List.length_nil] at e
  omega
/-- The runes of what was encoded. -/
theorem runes_enc (n : Int) (h : Utf8.valid n = true) (t : List UInt8) : runes (enc n ++ t) = n :: runes t := by
  have h0 : 0 ≤ n := by
    have hv : (0 ≤ n ∧ n < 55296) ∨ (57344 ≤ n ∧ n ≤ 1114111) := by simpa [Utf8.valid] using h
    omega
  rw [runes_step _ (enc_ne n t), decodeL_enc n h t]
  simp
  omega
theorem runes_bytes (ns : List Int) (h : ∀ n ∈ ns, Utf8.valid n = true) : runes (bytes ns) = ns := by
  induction ns with
  | nil => rfl
  | cons n ns ih =>
    show runes (enc n ++ bytes ns) = _
    rw [runes_enc n (h n (by simp)), ih (fun m hm => h m (by simp [hm]))]
theorem valid_bytes (ns : List Int) (h : ∀ n ∈ ns, Utf8.valid n = true) : validD (bytes ns) = true := by
  induction ns with
  | nil => rfl
  | cons n ns ih =>
    have hn := h n (by simp)
    have hv : (0 ≤ n ∧ n < 55296) ∨ (57344 ≤ n ∧ n ≤ 1114111) := by simpa [Utf8.valid] using hn
    show validD (enc n ++ bytes ns) = true
    rw [validD_step _ (enc_ne n _), decodeL_enc n hn, if_neg]
    · simpa using ih (fun m hm => h m (by simp [hm]))
    · rintro ⟨e, e1⟩
      simp only at e e1
      have e' : n = 65533 := by omega
      subst e'
      revert e1
      decide

set_option maxHeartbeats 1000000 in
theorem decodeN_cases (n b0 b1 b2 b3 : Nat) (h1 : b1 < 256) (h2 : b2 < 256) (h3 : b3 < 256) (h0 : b0 < 256) :
    decodeN n b0 b1 b2 b3 = (65533, 1) ∨ (b0 < 128 ∧ decodeN n b0 b1 b2 b3 = (b0, 1)) ∨
    (∃ c, decodeN n b0 b1 b2 b3 = (c, 2) ∧ 1 < n ∧ 128 ≤ c ∧ c < 2048 ∧ b0 = 192 + c / 64 ∧ b1 = 128 + c % 64) ∨
    (∃ c, decodeN n b0 b1 b2 b3 = (c, 3) ∧ 2 < n ∧ 2048 ≤ c ∧ c < 65536 ∧ (c < 55296 ∨ 57344 ≤ c) ∧ b0 = 224 + c / 4096 ∧ b1 = 128 + c / 64 % 64 ∧ b2 = 128 + c % 64) ∨
    (∃ c, decodeN n b0 b1 b2 b3 = (c, 4) ∧ 3 < n ∧ 65536 ≤ c ∧ c ≤ 1114111 ∧ b0 = 240 + c / 262144 ∧ b1 = 128 + c / 4096 % 64 ∧ b2 = 128 + c / 64 % 64 ∧ b3 = 128 + c % 64) := by
  unfold decodeN
  by_cases c1 : b0 < 128
  · rw [if_pos c1]; exact .inr (.inl ⟨c1, rfl⟩)
  rw [if_neg c1]
  by_cases c2 : b0 / 32 = 6 ∧ (1 < n ∧ b1 / 64 = 2)
  · rw [if_pos c2]
    by_cases c3 : b0 % 32 * 64 + b1 % 64 ≥ 128
    · rw [if_pos c3]; exact .inr (.inr (.inl ⟨_, rfl, c2.2.1, c3, by omega, by omega, by omega⟩))
    · rw [if_neg c3]; exact .inl rfl
  rw [if_neg c2]
  by_cases c4 : b0 / 16 = 14 ∧ (1 < n ∧ b1 / 64 = 2) ∧ (2 < n ∧ b2 / 64 = 2)
  · rw [if_pos c4]
    obtain ⟨d1, ⟨d2, d3⟩, d4, d5⟩ := c4
    clear c2
    generalize hc : b0 % 16 * 4096 + b1 % 64 * 64 + b2 % 64 = c
    by_cases c5 : c ≥ 2048 ∧ (c < 55296 ∨ (57344 ≤ c ∧ c ≤ 1114111))
    · rw [if_pos c5]; exact .inr (.inr (.inr (.inl ⟨_, rfl, d4, c5.1, by omega, by omega, by omega, by omega, by omega⟩)))
    · rw [if_neg c5]; exact .inl rfl
  rw [if_neg c4]
  by_cases c6 : b0 / 8 = 30 ∧ (1 < n ∧ b1 / 64 = 2) ∧ (2 < n ∧ b2 / 64 = 2) ∧ (3 < n ∧ b3 / 64 = 2)
  · rw [if_pos c6]
    obtain ⟨d1, ⟨d2, d3⟩, ⟨d4, d5⟩, d6, d7⟩ := c6
    clear c2 c4
    generalize hc : b0 % 8 * 262144 + b1 % 64 * 4096 + b2 % 64 * 64 + b3 % 64 = c
    by_cases c7 : c ≥ 65536 ∧ (c < 55296 ∨ (57344 ≤ c ∧ c ≤ 1114111))
    · rw [if_pos c7]; exact .inr (.inr (.inr (.inr ⟨_, rfl, d6, c7.1, by omega, by omega, by omega, by omega, by omega⟩)))
    · rw [if_neg c7]; exact .inl rfl
  rw [if_neg c6]
  exact .inl rfl

theorem u8_eq {b : UInt8} {n : Nat} (h : b.toNat = n) : UInt8.ofNat n = b := by
  subst h
  simp
set_option maxRecDepth 100000 in
theorem enc_of {c : Nat} (hv : Utf8.valid (c : Int) = true) : enc (c : Int) = (if c < 0x80 then [UInt8.ofNat c] else if c < 0x800 then [UInt8.ofNat (0xC0 + c / 64), UInt8.ofNat (0x80 + c % 64)]
    else if c < 0x10000 then [UInt8.ofNat (0xE0 + c / 4096), UInt8.ofNat (0x80 + c / 64 % 64), UInt8.ofNat (0x80 + c % 64)]
    else [UInt8.ofNat (0xF0 + c / 262144), UInt8.ofNat (0x80 + c / 4096 % 64), UInt8.ofNat (0x80 + c / 64 % 64), UInt8.ofNat (0x80 + c % 64)]) := by
  unfold enc Utf8.encode
  simp only [hv, if_true, Int.toNat_natCast]
  by_cases h1 : c < 128
  · rw [if_pos h1, if_pos h1]
  · rw [if_neg h1, if_neg h1]
    by_cases h2 : c < 2048
    · rw [if_pos h2, if_pos h2]
    · rw [if_neg h2, if_neg h2]
      by_cases h3 : c < 65536
      · rw [if_pos h3, if_pos h3]
      · rw [if_neg h3, if_neg h3]
theorem valid_int {n : Int} (h : (0 ≤ n ∧ n < 55296) ∨ (57344 ≤ n ∧ n ≤ 1114111)) : Utf8.valid n = true := by
  simpa [Utf8.valid] using h
theorem int_valid {n : Int} (h : Utf8.valid n = true) : (0 ≤ n ∧ n < 55296) ∨ (57344 ≤ n ∧ n ≤ 1114111) := by
  simpa [Utf8.valid] using h
theorem valid_nat {c : Nat} (h : c < 55296 ∨ (57344 ≤ c ∧ c ≤ 1114111)) : Utf8.valid (c : Int) = true := valid_int (by omega)

set_option maxHeartbeats 1000000 in
/-- Where the bytes open a valid form, they are that rune's bytes. -/
theorem enc_decodeL (l : List UInt8) (hne : l ≠ []) (hok : ¬ ((decodeL l).1 = 65533 ∧ (decodeL l).2 = 1)) :
    Utf8.valid ((decodeL l).1 : Int) = true ∧ l = enc ((decodeL l).1 : Int) ++ l.drop (decodeL l).2 := by
  have hN := decodeL_N l
  rcases decodeN_cases l.length (l.getD 0 0).toNat (l.getD 1 0).toNat (l.getD 2 0).toNat (l.getD 3 0).toNat (UInt8.toNat_lt _) (UInt8.toNat_lt _) (UInt8.toNat_lt _) (UInt8.toNat_lt _) with h | ⟨h1, h⟩ | ⟨c, h, hn, h1, h2, e0, e1⟩ | ⟨c, h, hn, h1, h2, h3, e0, e1, e2⟩ | ⟨c, h, hn, h1, h2, e0, e1, e2, e3⟩
  · rw [h] at hN; rw [hN] at hok; simp at hok
  · rw [h] at hN
    rw [hN]
    have hv : Utf8.valid ((l.getD 0 0).toNat : Int) = true := valid_nat (by omega)
    refine ⟨hv, ?_⟩
    show l = enc ((l.getD 0 0).toNat : Int) ++ l.drop 1
    rw [enc_of hv, if_pos h1]
    clear h hN hok hv
    obtain ⟨a, t, rfl⟩ := List.exists_cons_of_ne_nil hne
    rw [List.getD_cons_zero, u8_eq rfl]
    rfl
  · rw [h] at hN
    rw [hN]
    have hv : Utf8.valid (c : Int) = true := valid_nat (by omega)
    refine ⟨hv, ?_⟩
    show l = enc (c : Int) ++ l.drop 2
    rw [enc_of hv, if_neg (by omega), if_pos h2]
    match l, hne, hn with
    | a :: b :: t, _, _ =>
      simp only [List.getD_cons_zero, List.getD_cons_succ] at e0 e1
      simp [u8_eq e0, u8_eq e1]
  · rw [h] at hN
    rw [hN]
    have hv : Utf8.valid (c : Int) = true := valid_nat (by omega)
    refine ⟨hv, ?_⟩
    show l = enc (c : Int) ++ l.drop 3
    rw [enc_of hv, if_neg (by omega), if_neg (by omega), if_pos h2]
    match l, hne, hn with
    | a :: b :: d :: t, _, _ =>
      simp only [List.getD_cons_zero, List.getD_cons_succ] at e0 e1 e2
      simp [u8_eq e0, u8_eq e1, u8_eq e2]
  · rw [h] at hN
    rw [hN]
    have hv : Utf8.valid (c : Int) = true := valid_nat (by omega)
    refine ⟨hv, ?_⟩
    show l = enc (c : Int) ++ l.drop 4
    rw [enc_of hv, if_neg (by omega), if_neg (by omega), if_neg (by omega)]
    match l, hne, hn with
    | a :: b :: d :: f :: t, _, _ =>
      simp only [List.getD_cons_zero, List.getD_cons_succ] at e0 e1 e2 e3
      simp [u8_eq e0, u8_eq e1, u8_eq e2, u8_eq e3]

theorem valid_runesN : ∀ (n : Nat) (l : List UInt8), l.length ≤ n → validD l = true → (∀ r ∈ runes l, Utf8.valid r = true) ∧ bytes (runes l) = l
  | 0, l, h, _ => by
    have : l = [] := List.eq_nil_of_length_eq_zero (by omega)
    subst this
    simp [runes_nil, bytes]
  | n + 1, l, h, hv => by
    by_cases hne : l = []
    · subst hne; simp [runes_nil, bytes]
    · have hw := decodeL_width l
      have hl : 0 < l.length := List.length_pos_iff.2 hne
      rw [validD_step l hne] at hv
      by_cases hb : (decodeL l).1 = 65533 ∧ (decodeL l).2 = 1
      · rw [if_pos hb] at hv; cases hv
      rw [if_neg hb] at hv
      obtain ⟨ih1, ih2⟩ := valid_runesN n (l.drop (decodeL l).2) (by rw [List.length_drop]; omega) hv
      obtain ⟨e1, e2⟩ := enc_decodeL l hne hb
      rw [runes_step l hne]
      refine ⟨fun r hr => ?_, ?_⟩
      · rcases List.mem_cons.1 hr with rfl | hr
        · exact e1
        · exact ih1 r hr
      · show enc _ ++ bytes _ = l
        rw [ih2]
        exact e2.symm
/-- Of valid bytes: their runes are valid, and the runes' bytes are they. -/
theorem valid_runes {l : List UInt8} (h : validD l = true) : ∀ r ∈ runes l, Utf8.valid r = true := (valid_runesN l.length l (Nat.le_refl _) h).1
theorem bytes_runes {l : List UInt8} (h : validD l = true) : bytes (runes l) = l := (valid_runesN l.length l (Nat.le_refl _) h).2
theorem bytes_inj {a b : List Int} (ha : ∀ n ∈ a, Utf8.valid n = true) (hb : ∀ n ∈ b, Utf8.valid n = true) (h : bytes a = bytes b) : a = b := by
  rw [← runes_bytes a ha, ← runes_bytes b hb, h]
end Go.Proofs.YthbfmdnibijapaaDoor.Utf
namespace Go.Proofs.YthbfmdnibijapaaDoor
open Go Go.RowKit

theorem addr_add (cb lo j : Nat) : (Addr.add ⟨cb, lo, none⟩ j) = ⟨cb, lo + j, none⟩ := by
  unfold Addr.add
  by_cases h : j = 0
  · subst h; simp
  · rw [if_neg h]
/-- But for the blocks of S nothing that was there has turned. -/
structure Kept (S : Nat → Prop) (w w' : World) : Prop where
  os : w'.os = w.os
  tape : w'.tape = w.tape
  output : w'.output = w.output
  size : w.heap.size ≤ w'.heap.size
  block : ∀ k, k < w.heap.size → ¬ S k → w'.heap[k]? = w.heap[k]?
theorem Kept.refl (S : Nat → Prop) (w : World) : Kept S w w := ⟨rfl, rfl, rfl, Nat.le_refl _, fun _ _ _ => rfl⟩
theorem Kept.trans {S : Nat → Prop} {a b c : World} (h : Kept S a b) (k : Kept S b c) : Kept S a c :=
  ⟨k.os.trans h.os, k.tape.trans h.tape, k.output.trans h.output, Nat.le_trans h.size k.size, fun i hi hs => (k.block i (Nat.lt_of_lt_of_le hi h.size) hs).trans (h.block i hi hs)⟩
theorem Kept.mono {S T : Nat → Prop} {a b : World} (h : Kept S a b) (hST : ∀ k, k < a.heap.size → S k → T k) : Kept T a b :=
  ⟨h.os, h.tape, h.output, h.size, fun k hk hn => h.block k hk fun hs => hn (hST k hk hs)⟩
theorem Kept.drewN {S : Nat → Prop} {a b : World} (h : Kept S a b) (n : Nat) : Kept S a (b.drewN n) := ⟨h.os, h.tape, h.output, h.size, h.block⟩
theorem Kept.drew {S : Nat → Prop} {a b : World} (h : Kept S a b) : Kept S a b.drew := ⟨h.os, h.tape, h.output, h.size, h.block⟩
theorem Kept.alloc {S : Nat → Prop} {a b : World} (h : Kept S a b) (o : Obj) : Kept S a (b.alloc o) :=
  h.trans ⟨rfl, rfl, rfl, by simp, fun k hk _ => Below.heap_alloc _ _ _ hk⟩
theorem Kept.setCell {S : Nat → Prop} {a b : World} (h : Kept S a b) {p : Addr} (hp : S p.block) (u : Value) : Kept S a (b.setCell p u) :=
  h.trans ⟨rfl, rfl, rfl, by simp [World.setCell], fun k _ hk => Below.heap_setCell _ _ _ _ (fun e => hk (e ▸ hp))⟩
theorem Kept.setRow {S : Nat → Prop} {a b : World} (h : Kept S a b) {g : Nat} (hg : S g) (cs : Array Value) : Kept S a (b.setRow g cs) :=
  h.trans ⟨rfl, rfl, rfl, by simp [World.setRow], fun k _ hk => setRow_other _ _ _ _ (fun e => hk (e ▸ hg))⟩
theorem Kept.below {S : Nat → Prop} {a b : World} (h : Kept S a b) {B : Nat} (hB : B ≤ a.heap.size) (hS : ∀ k, S k → B ≤ k) : Below B a b :=
  ⟨h.os, h.tape, h.output, h.size, fun k hk => h.block k (by omega) fun hs => by have := hS k hs; omega⟩
theorem heap_lt {w : World} {g : Nat} {o : Obj} (h : w.heap[g]? = some o) : g < w.heap.size := by
  rcases Nat.lt_or_ge g w.heap.size with hlt | hge
  · exact hlt
  · rw [Array.getElem?_eq_none hge] at h; cases h
theorem block_ne {w : World} {g g' : Nat} {t t' : TypeId} {cs cs' : Array Value} {f f' : Nat × Nat} (h : w.heap[g]? = some (.cells cs t f)) (h' : w.heap[g']? = some (.cells cs' t' f')) (hne : t ≠ t') : g ≠ g' := by
  rintro rfl
  rw [h] at h'
  injection h' with h'
  injection h' with _ ht
  exact hne ht
theorem heap_set {w : World} {g i : Nat} {t : TypeId} {cs : Array Value} {f : Nat × Nat} (h : w.heap[g]? = some (.cells cs t f)) (u : Value) : (w.setCell ⟨g, i, none⟩ u).heap[g]? = some (.cells (cs.setIfInBounds i u) t f) := by
  simp [World.setCell, Array.getElem?_modify, h]
theorem heap_far {w : World} {g g' i : Nat} (h : g ≠ g') (u : Value) : (w.setCell ⟨g', i, none⟩ u).heap[g]? = w.heap[g]? := Below.heap_setCell _ _ _ _ h
theorem frozen_of {w : World} {g i : Nat} {t : TypeId} {cs : Array Value} (h : w.heap[g]? = some (.cells cs t (0, 0))) : w.frozen? ⟨g, i, none⟩ = false := by
  simp [World.frozen?, h]

theorem cell_kept {S : Nat → Prop} {w w' : World} {p : Addr} {v : Value} (hk : Kept S w w') (h : w.cell? p = some v) (hs : ¬ S p.block) : w'.cell? p = some v :=
  (World.cell?_of_block (hk.block _ (World.block_lt_of_cell? w _ h) hs)).trans h
theorem Kept.of_below {w w' : World} (h : Below w.heap.size w w') : Kept (fun _ => False) w w' := ⟨h.os, h.tape, h.output, h.size, fun k hk _ => h.block k hk⟩
theorem Kept.to_below {w w' : World} (h : Kept (fun _ => False) w w') : Below w.heap.size w w' := ⟨h.os, h.tape, h.output, h.size, fun k hk => h.block k hk (fun h => h)⟩
theorem Kept.any {S : Nat → Prop} {w w' : World} (h : Kept (fun _ => False) w w') : Kept S w w' := h.mono (fun _ _ h => h.elim)
theorem Kept.grown {S : Nat → Prop} {a b c : World} (h : Kept S a b) (hg : b.grownBy c none) : Kept S a c :=
  h.trans ⟨hg.os, hg.tape, hg.output, hg.size, fun k hk _ => hg.block k hk (by simp)⟩
theorem Kept.grew {a b c : World} {row : Option Nat} (h : Kept (fun _ => False) a b) (hg : b.grownBy c row) (hrow : ∀ k, row = some k → a.heap.size ≤ k) : Kept (fun _ => False) a c :=
  Kept.of_below ((Kept.to_below h).grown hg h.size hrow)
theorem Kept.fresh {S : Nat → Prop} {w w1 w2 : World} (h1 : Kept (fun _ => False) w w1) (h2 : Kept S w1 w2) (hS : ∀ k, k < w.heap.size → ¬ S k) : Kept (fun _ => False) w w2 :=
  ⟨h2.os.trans h1.os, h2.tape.trans h1.tape, h2.output.trans h1.output, Nat.le_trans h1.size h2.size, fun k hk _ => (h2.block k (Nat.lt_of_lt_of_le hk h1.size) (hS k hk)).trans (h1.block k hk id)⟩
/-- What an outer world kept is kept when a later one only touches what is newer. -/
theorem Kept.over {S T : Nat → Prop} {w w1 w2 : World} (h1 : Kept S w w1) (h2 : Kept T w1 w2) (hT : ∀ k, k < w.heap.size → T k → S k) : Kept S w w2 :=
  ⟨h2.os.trans h1.os, h2.tape.trans h1.tape, h2.output.trans h1.output, Nat.le_trans h1.size h2.size, fun k hk hs => (h2.block k (Nat.lt_of_lt_of_le hk h1.size) (fun ht => hs (hT k hk ht))).trans (h1.block k hk hs)⟩

/-- A slice of numbers. -/
def Nums (w : World) (A : Option Addr) (m : Nat) (xs : List Int) : Prop :=
  xs.length = m ∧ ∀ j x, xs[j]? = some x → ∃ ad, A = some ad ∧ w.cell? (ad.add j) = some (.int .i64 x)
theorem Nums.cell {w : World} {A : Option Addr} {m : Nat} {xs : List Int} (h : Nums w A m xs) {j : Nat} (hj : j < m) : ∃ ad x, A = some ad ∧ xs[j]? = some x ∧ w.cell? (ad.add j) = some (.int .i64 x) := by
  have hl : j < xs.length := by rw [h.1]; exact hj
  obtain ⟨ad, e, r⟩ := h.2 j xs[j] (List.getElem?_eq_getElem hl)
  exact ⟨ad, xs[j], e, List.getElem?_eq_getElem hl, r⟩
theorem Nums.kept {S : Nat → Prop} {w w' : World} {A : Option Addr} {m : Nat} {xs : List Int} (h : Nums w A m xs) (hk : Kept S w w') (hs : ∀ a, A = some a → ¬ S a.block) : Nums w' A m xs := by
  refine ⟨h.1, fun j x hj => ?_⟩
  obtain ⟨ad, e, r⟩ := h.2 j x hj
  refine ⟨ad, e, cell_kept hk r ?_⟩
  rw [show (ad.add j).block = ad.block by unfold Addr.add; split <;> rfl]
  exact hs ad e

/-- A slice of runes. -/
def Rn (w : World) (A : Option Addr) (n : Nat) (t : List Int) : Prop :=
  t.length = n ∧ ∀ j x, t[j]? = some x → ∃ ad, A = some ad ∧ w.cell? (ad.add j) = some (.int .i32 x)
theorem Rn.cell {w : World} {A : Option Addr} {m : Nat} {xs : List Int} (h : Rn w A m xs) {j : Nat} (hj : j < m) : ∃ ad x, A = some ad ∧ xs[j]? = some x ∧ w.cell? (ad.add j) = some (.int .i32 x) := by
  have hl : j < xs.length := by rw [h.1]; exact hj
  obtain ⟨ad, e, r⟩ := h.2 j xs[j] (List.getElem?_eq_getElem hl)
  exact ⟨ad, xs[j], e, List.getElem?_eq_getElem hl, r⟩
theorem Rn.kept {S : Nat → Prop} {w w' : World} {A : Option Addr} {m : Nat} {xs : List Int} (h : Rn w A m xs) (hk : Kept S w w') (hs : ∀ a, A = some a → ¬ S a.block) : Rn w' A m xs := by
  refine ⟨h.1, fun j x hj => ?_⟩
  obtain ⟨ad, e, r⟩ := h.2 j x hj
  refine ⟨ad, e, cell_kept hk r ?_⟩
  rw [show (ad.add j).block = ad.block by unfold Addr.add; split <;> rfl]
  exact hs ad e
theorem Rn.drewN {w : World} {A : Option Addr} {m : Nat} {xs : List Int} (h : Rn w A m xs) (q : Nat) : Rn (w.drewN q) A m xs := h
/-- Runes of a text: numbers from 0 to the greatest rune's. -/
def Runey (t : List Int) : Prop := ∀ r ∈ t, 0 ≤ r ∧ r ≤ 1114111
theorem Runey.at_ {t : List Int} (h : Runey t) {j : Nat} {x : Int} (hj : t[j]? = some x) : 0 ≤ x ∧ x ≤ 1114111 := h x (List.mem_of_getElem? hj)
end Go.Proofs.YthbfmdnibijapaaDoor
namespace Go.Proofs.YthbfmdnibijapaaDoor
open Go Go.RowKit Go.ChangeShapes Go.WideShapes Go.ChangeAt

theorem laidOut : laidOutB Tryd.prog = true := by kernel_rfl
theorem cells_string : Tryd.prog.cellsOf 9 = 1 := by kernel_rfl
theorem cells_int : Tryd.prog.cellsOf 3 = 1 := by kernel_rfl
theorem cells_strings : Tryd.prog.cellsOf 117 = 1 := by kernel_rfl
theorem bytes_string : Tryd.prog.bytesOf 9 = 16 := by kernel_rfl
theorem bytes_int : Tryd.prog.bytesOf 3 = 8 := by kernel_rfl
theorem addr_far (x : Addr) (j : Nat) (hj : j ≠ 0) : x.add j = ⟨x.block, x.off + j, none⟩ := by
  unfold Addr.add; rw [if_neg hj]

/-- What a law leaves that has only made memory: every old place reads as it did, the argument among them. -/
theorem post_below {H : Type} {enc : TypeId × Value → H} {P : Program} {f : Func} {s : ChangeSpec} {apart fresh handsOn again : Bool} {W W' : World} {args : Array Value} {v : Value} {ds gs : List (DataW H)} {before pv : List MemPlace}
    (hW : DataW.Whole enc P f.params.toList s.vars apart W args.toList ds gs (before ++ pv)) (hb : Below W.heap.size W W')
    (hres : ∀ (b : Nat) (sp : Nat → Bool) (hd : Bool), DataW.TrodAll enc P W' b sp hd f.resultTypes.toList (v.resultList f.resultTypes.size) (s.fn H (ds ++ gs)).results [])
    (hargs : ∀ sp : Nat → Bool, (∀ p ∈ before, sp p.block = true) → DataW.TrodAll enc P W' 0 sp true f.params.toList args.toList (s.fn H (ds ++ gs)).args before)
    (hvars : ∀ sp : Nat → Bool, (∀ p ∈ pv, sp p.block = true) → DataW.TrodVars enc P W' sp s.vars (s.fn H (ds ++ gs)).vars pv)
    (hok : ∀ (j : Nat) (t : TypeId) (r : Value), f.resultTypes[j]? = some t → (v.resultList f.resultTypes.size)[j]? = some r → Value.okWide P W' .any 0 t r) :
    s.post enc P f apart fresh handsOn again W args v W' := by
  have old : ∀ p ∈ before ++ pv, p.block < W.heap.size := fun p hp => hW.lt p hp
  have oldA : ∀ p ∈ before, decide (p.block < W.heap.size) = true := fun p hp => decide_eq_true (old p (List.mem_append_left _ hp))
  have oldV : ∀ p ∈ pv, decide (p.block < W.heap.size) = true := fun p hp => decide_eq_true (old p (List.mem_append_right _ hp))
  obtain ⟨_, _, _, _, _, unfrozen, distinct⟩ := id hW
  refine ⟨ds, gs, before ++ pv, [], before, pv, hW, hres _ _ _, hargs _ oldA, hvars _ oldV, hb.frame _, fun _ => ⟨hok, (s.fn H (ds ++ gs)).results ++ (s.fn H (ds ++ gs)).args, (s.fn H (ds ++ gs)).vars, before ++ pv, ?_, fun p hp _ => hp⟩⟩
  refine ⟨before, pv, ?_, hvars _ (fun _ _ => rfl), rfl, fun b off hp => ?_, distinct⟩
  · simpa using trodAll_append (hargs (fun _ => true) (fun _ _ => rfl)) (hres 0 (fun _ => true) true)
  · exact (hb.frozen (p := ⟨b, off, none⟩) (old _ hp)).trans (unfrozen b off hp)


/-- A slice of texts. -/
def Strs (w : World) (A : Option Addr) (n : Nat) (ss : List ByteArray) : Prop :=
  ss.length = n ∧ ∀ j s, ss[j]? = some s → ∃ ad, A = some ad ∧ w.cell? (ad.add j) = some (.string s) ∧ s.size ≤ 140737488351232
theorem Strs.cell {w : World} {A : Option Addr} {n : Nat} {ss : List ByteArray} (h : Strs w A n ss) {j : Nat} (hj : j < n) : ∃ ad s, A = some ad ∧ ss[j]? = some s ∧ w.cell? (ad.add j) = some (.string s) ∧ s.size ≤ 140737488351232 := by
  have hl : j < ss.length := by rw [h.1]; exact hj
  obtain ⟨ad, e, r⟩ := h.2 j ss[j] (List.getElem?_eq_getElem hl)
  exact ⟨ad, ss[j], e, List.getElem?_eq_getElem hl, r⟩
theorem Strs.kept {w w' : World} {A : Option Addr} {n : Nat} {ss : List ByteArray} (h : Strs w A n ss) (hk : Kept (fun _ => False) w w') : Strs w' A n ss := by
  refine ⟨h.1, fun j s hj => ?_⟩
  obtain ⟨ad, e, r, hs⟩ := h.2 j s hj
  exact ⟨ad, e, cell_kept hk r id, hs⟩
/-- A number that an int can hold. -/
def I64 (x : Int) : Prop := -9223372036854775808 ≤ x ∧ x ≤ 9223372036854775807
theorem i64_of_wf {x : Int} (h : (Lit.int .i64 x).wf = true) : I64 x := by
  unfold Lit.wf at h
  simp only [Bool.and_eq_true, decide_eq_true_eq] at h
  have h1 : IntKind.i64.min = -9223372036854775808 := by decide
  have h2 : IntKind.i64.max = 9223372036854775807 := by decide
  rw [h1, h2] at h
  exact h

section
variable {H : Type} {enc : TypeId × Value → H} {W : World} {base : Nat} {sp : Nat → Bool} {held : Bool}

theorem mem_weightsAll {P : Program} {e : TypeId} {l : List (DataW H)} {d : DataW H} (hd : d ∈ l) {q : Nat} (hq : q ∈ d.weights P e) : q ∈ DataW.weightsAll P e l := by
  induction l with
  | nil => cases hd
  | cons x l ih =>
    simp only [DataW.weightsAll, List.mem_append]
    rcases List.mem_cons.1 hd with rfl | h
    · exact Or.inl hq
    · exact Or.inr (ih h)

instance : Inhabited ByteArray := ⟨.empty⟩
set_option maxRecDepth 100000 in
theorem strs_open {fuel : Nat} {cs : List Value} {x : DataW H × List MemPlace} (h : DataW.trod enc Tryd.prog W base sp held fuel 117 cs = some x) (hz : ∀ q ∈ x.1.weights Tryd.prog 117, q ≤ reachBytes) :
    ∃ (A : Option Addr) (n c : Nat) (ss : List ByteArray), cs = [.slice A n c] ∧ Strs W A n ss ∧ n ≤ 8796093022208 := by
  rcases Deep.open_slice1 Tryd.underlying117 cells_string h with ⟨rfl, rfl⟩ | ⟨a, len, cap, m, fu, V, D, Pl, rfl, hb, hl, hm, hmm, rfl, hx⟩
  · exact ⟨none, 0, 0, [], rfl, ⟨rfl, fun j x hj => by simp at hj⟩, by omega⟩
  · have hle : len ≤ m := by rw [hmm]; split <;> omega
    have hw : DataW.weights Tryd.prog 117 (DataW.slice ((List.range len).map D) ((List.range (m - len)).map fun j => D (len + j))) =
        (((List.range len).map D).length + ((List.range (m - len)).map fun j => D (len + j)).length) * Tryd.prog.bytesOf 9 :: (DataW.weightsAll Tryd.prog 9 ((List.range len).map D) ++ DataW.weightsAll Tryd.prog 9 ((List.range (m - len)).map fun j => D (len + j))) := by
      simp only [DataW.weights, Tryd.underlying117]
    have hlen : len ≤ 8796093022208 := by
      have h1 := hz _ (by rw [hw]; exact List.mem_cons_self)
      simp only [List.length_map, List.length_range, bytes_string] at h1
      unfold reachBytes at h1
      omega
    obtain ⟨q, hq⟩ := Deep.choose_lt (α := ByteArray) (n := len) (p := fun i s => W.cell? (a.add i) = some (.string s) ∧ s.size ≤ 140737488351232) (fun i hi => by
      obtain ⟨h1, h2⟩ := hx i (by omega)
      obtain ⟨S, e1, hD, hS⟩ := DataW.trod_string Tryd.underlying9 h2
      simp only [List.cons.injEq, and_true] at e1
      refine ⟨S, by rw [h1, e1], ?_⟩
      have := hz S.data.toList.length (by
        rw [hw]
        refine List.mem_cons_of_mem _ (List.mem_append_left _ (mem_weightsAll (d := D i) (List.mem_map.2 ⟨i, List.mem_range.2 hi, rfl⟩) ?_))
        have hD' := congrArg Prod.fst hD
        simp only at hD'
        rw [hD']
        simp [DataW.weights])
      rw [Array.length_toList] at this
      exact this)
    refine ⟨some a, len, cap, (List.range len).map q, rfl, ⟨by simp, fun j x hj => ⟨a, rfl, ?_⟩⟩, hlen⟩
    have hjl : j < len := by
      by_cases hjl : j < len
      · exact hjl
      · rw [List.getElem?_eq_none (by simp; omega)] at hj; simp at hj
    rw [List.getElem?_map, List.getElem?_range hjl] at hj
    simp only [Option.map_some, Option.some.injEq] at hj
    rw [← hj]
    exact hq j hjl

end
end Go.Proofs.YthbfmdnibijapaaDoor
