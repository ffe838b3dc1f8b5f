/-
  PLAIN: brackets and their mates (chapter 14), on a list of runes: by a stack, and by counting.
-/
import Derived.Test.YtohmhjeimeilcaaDoorRowP
set_option linter.unusedVariables false
namespace Go.Proofs.YtohmhjeimeilcaaDoor.Rw

def opn : Nat → Int
  | 0 => 40
  | 1 => 91
  | _ => 123
def sht : Nat → Int
  | 0 => 41
  | 1 => 93
  | _ => 125
theorem opn_sht (k k' : Nat) : opn k ≠ sht k' := by
  unfold opn sht
  split <;> split <;> decide
theorem opn_inj {k k' : Nat} (hk : k < 3) (hk' : k' < 3) (h : opn k = opn k') : k = k' := by
  match k, hk, k', hk', h with
  | 0, _, 0, _, _ => rfl
  | 1, _, 1, _, _ => rfl
  | 2, _, 2, _, _ => rfl
  | 0, _, 1, _, h => simp [opn] at h
  | 0, _, 2, _, h => simp [opn] at h
  | 1, _, 0, _, h => simp [opn] at h
  | 1, _, 2, _, h => simp [opn] at h
  | 2, _, 0, _, h => simp [opn] at h
  | 2, _, 1, _, h => simp [opn] at h
theorem sht_inj {k k' : Nat} (hk : k < 3) (hk' : k' < 3) (h : sht k = sht k') : k = k' := by
  match k, hk, k', hk', h with
  | 0, _, 0, _, _ => rfl
  | 1, _, 1, _, _ => rfl
  | 2, _, 2, _, _ => rfl
  | 0, _, 1, _, h => simp [sht] at h
  | 0, _, 2, _, h => simp [sht] at h
  | 1, _, 0, _, h => simp [sht] at h
  | 1, _, 2, _, h => simp [sht] at h
  | 2, _, 0, _, h => simp [sht] at h
  | 2, _, 1, _, h => simp [sht] at h
/-- The kind of an opening bracket; of a closing one. -/
def kdo (c : Int) : Option Nat := if c = 40 then some 0 else if c = 91 then some 1 else if c = 123 then some 2 else none
def kds (c : Int) : Option Nat := if c = 41 then some 0 else if c = 93 then some 1 else if c = 125 then some 2 else none
theorem kdo_some {c : Int} {k : Nat} (h : kdo c = some k) : c = opn k ∧ k < 3 := by
  unfold kdo at h
  split at h
  · injection h with h; subst h; exact ⟨by assumption, by omega⟩
  split at h
  · injection h with h; subst h; exact ⟨by assumption, by omega⟩
  split at h
  · injection h with h; subst h; exact ⟨by assumption, by omega⟩
  · cases h
theorem kds_some {c : Int} {k : Nat} (h : kds c = some k) : c = sht k ∧ k < 3 := by
  unfold kds at h
  split at h
  · injection h with h; subst h; exact ⟨by assumption, by omega⟩
  split at h
  · injection h with h; subst h; exact ⟨by assumption, by omega⟩
  split at h
  · injection h with h; subst h; exact ⟨by assumption, by omega⟩
  · cases h
theorem kdo_opn {k : Nat} (h : k < 3) : kdo (opn k) = some k := by
  match k, h with
  | 0, _ => rfl
  | 1, _ => rfl
  | 2, _ => rfl
theorem kds_sht {k : Nat} (h : k < 3) : kds (sht k) = some k := by
  match k, h with
  | 0, _ => rfl
  | 1, _ => rfl
  | 2, _ => rfl
theorem kdo_none {c : Int} (h : kdo c = none) (k : Nat) : c ≠ opn k := by
  rintro rfl
  unfold kdo opn at h
  revert h
  split <;> decide
theorem kds_none {c : Int} (h : kds c = none) (k : Nat) : c ≠ sht k := by
  rintro rfl
  unfold kds sht at h
  revert h
  split <;> decide
theorem kdo_sht (k : Nat) : kdo (sht k) = none := by
  unfold kdo sht
  split <;> decide
/-- The brackets of a kind that stand open ahead of an offset, the last one first. -/
def stk (t : List Int) (k : Nat) : Nat → List Nat
  | 0 => []
  | i + 1 => if t[i]? = some (opn k) then i :: stk t k i else if t[i]? = some (sht k) then (stk t k i).tail else stk t k i
theorem stk_open {t : List Int} {k i : Nat} (h : t[i]? = some (opn k)) : stk t k (i + 1) = i :: stk t k i := by simp [stk, h]
theorem stk_shut {t : List Int} {k i : Nat} (h : t[i]? = some (sht k)) : stk t k (i + 1) = (stk t k i).tail := by
  have : t[i]? ≠ some (opn k) := by rw [h]; intro e; injection e with e; exact opn_sht k k e.symm
  rw [stk, if_neg this, if_pos h]
theorem stk_else {t : List Int} {k i : Nat} (h1 : t[i]? ≠ some (opn k)) (h2 : t[i]? ≠ some (sht k)) : stk t k (i + 1) = stk t k i := by
  rw [stk, if_neg h1, if_neg h2]
theorem stk_mem {t : List Int} {k : Nat} : ∀ j p, p ∈ stk t k j → p < j ∧ t[p]? = some (opn k)
  | 0, p, h => by simp [stk] at h
  | j + 1, p, h => by
    by_cases h1 : t[j]? = some (opn k)
    · rw [stk_open h1] at h
      rcases List.mem_cons.1 h with rfl | h
      · exact ⟨by omega, h1⟩
      · have := stk_mem j p h
        exact ⟨by omega, this.2⟩
    · by_cases h2 : t[j]? = some (sht k)
      · rw [stk_shut h2] at h
        have := stk_mem j p (List.mem_of_mem_tail h)
        exact ⟨by omega, this.2⟩
      · rw [stk_else h1 h2] at h
        have := stk_mem j p h
        exact ⟨by omega, this.2⟩
theorem stk_len (t : List Int) (k j : Nat) : (stk t k j).length ≤ j := by
  induction j with
  | zero => simp [stk]
  | succ j ih =>
    by_cases h1 : t[j]? = some (opn k)
    · rw [stk_open h1]; simp; omega
    · by_cases h2 : t[j]? = some (sht k)
      · rw [stk_shut h2, List.length_tail]; omega
      · rw [stk_else h1 h2]; omega
theorem stk_nodup (t : List Int) (k : Nat) : ∀ j, (stk t k j).Nodup
  | 0 => by simp [stk]
  | j + 1 => by
    by_cases h1 : t[j]? = some (opn k)
    · rw [stk_open h1, List.nodup_cons]
      exact ⟨fun h => by have := (stk_mem j j h).1; omega, stk_nodup t k j⟩
    · by_cases h2 : t[j]? = some (sht k)
      · rw [stk_shut h2]
        have := stk_nodup t k j
        cases hs : stk t k j with
        | nil => simp
        | cons a l => rw [hs] at this; simpa using (List.nodup_cons.1 this).2
      · rw [stk_else h1 h2]
        exact stk_nodup t k j
/-- Counting to the right, from an offset, so deep. -/
def fsc (t : List Int) (k : Nat) : Nat → Nat → Nat → Option Nat
  | 0, _, _ => none
  | f + 1, j, d => if t[j]? = some (opn k) then fsc t k f (j + 1) (d + 1) else if t[j]? = some (sht k) then (if d ≤ 1 then some j else fsc t k f (j + 1) (d - 1)) else fsc t k f (j + 1) d
/-- Counting to the left, from ahead of an offset, so deep. -/
def rsc (t : List Int) (k : Nat) : Nat → Nat → Option Nat
  | 0, _ => none
  | j + 1, d => if t[j]? = some (opn k) then (if d ≤ 1 then some j else rsc t k j (d - 1)) else if t[j]? = some (sht k) then rsc t k j (d + 1) else rsc t k j d
theorem fsc_ge {t : List Int} {k : Nat} : ∀ f j d m, fsc t k f j d = some m → j ≤ m ∧ m < j + f ∧ t[m]? = some (sht k)
  | 0, j, d, m, h => by simp [fsc] at h
  | f + 1, j, d, m, h => by
    unfold fsc at h
    split at h
    · have := fsc_ge f _ _ m h; exact ⟨by omega, by omega, this.2.2⟩
    · split at h
      · split at h
        · injection h with h; subst h; exact ⟨by omega, by omega, by assumption⟩
        · have := fsc_ge f _ _ m h; exact ⟨by omega, by omega, this.2.2⟩
      · have := fsc_ge f _ _ m h; exact ⟨by omega, by omega, this.2.2⟩
theorem rsc_stk (t : List Int) (k : Nat) : ∀ j d, 1 ≤ d → rsc t k j d = (stk t k j)[d - 1]?
  | 0, d, h => by simp [rsc, stk]
  | j + 1, d, h => by
    unfold rsc
    by_cases h1 : t[j]? = some (opn k)
    · rw [if_pos h1, stk_open h1]
      by_cases hd : d ≤ 1
      · rw [if_pos hd, show d - 1 = 0 by omega]; rfl
      · rw [if_neg hd, rsc_stk t k j (d - 1) (by omega)]
        obtain ⟨e, rfl⟩ : ∃ e, d = e + 2 := ⟨d - 2, by omega⟩
        simp
    · rw [if_neg h1]
      by_cases h2 : t[j]? = some (sht k)
      · rw [if_pos h2, stk_shut h2, rsc_stk t k j (d + 1) (by omega), List.getElem?_tail]
        rw [show d + 1 - 1 = d - 1 + 1 by omega]
      · rw [if_neg h2, stk_else h1 h2, rsc_stk t k j d h]
/-- Where the mate of an opening bracket stands; of a closing one. -/
def mateO (t : List Int) (k i : Nat) : Option Nat := fsc t k (t.length - (i + 1)) (i + 1) 1
theorem mate_state {t : List Int} {k i : Nat} (hi : t[i]? = some (opn k)) : ∀ j, i < j → j ≤ t.length →
    (∃ d, 1 ≤ d ∧ (stk t k j)[d - 1]? = some i ∧ mateO t k i = fsc t k (t.length - j) j d) ∨
    (∃ m, m < j ∧ i < m ∧ mateO t k i = some m ∧ t[m]? = some (sht k) ∧ (stk t k m).head? = some i ∧ i ∉ stk t k j) := by
  intro j hij
  obtain ⟨n, rfl⟩ : ∃ n, j = i + 1 + n := ⟨j - (i + 1), by omega⟩
  clear hij
  induction n with
  | zero =>
    intro hl
    refine .inl ⟨1, by omega, ?_, rfl⟩
    rw [Nat.add_zero, stk_open hi]
    rfl
  | succ n ih =>
    intro hl
    have hlt : i + 1 + n < t.length := by omega
    obtain ⟨f, hf⟩ : ∃ f, t.length - (i + 1 + n) = f + 1 := ⟨t.length - (i + 1 + n) - 1, by omega⟩
    have hf' : t.length - (i + 1 + (n + 1)) = f := by omega
    rcases ih (by omega) with ⟨d, hd, hs, hm⟩ | ⟨m, h1, h2, h3, h4, h5, h6⟩
    · rw [hf] at hm
      rw [hf', show i + 1 + (n + 1) = i + 1 + n + 1 by omega]
      generalize i + 1 + n = j at *
      by_cases c1 : t[j]? = some (opn k)
      · refine .inl ⟨d + 1, by omega, ?_, ?_⟩
        · rw [stk_open c1]
          obtain ⟨e, rfl⟩ : ∃ e, d = e + 1 := ⟨d - 1, by omega⟩
          simpa using hs
        · rw [hm, fsc, if_pos c1]
      · by_cases c2 : t[j]? = some (sht k)
        · by_cases hd1 : d ≤ 1
          · have hd2 : d = 1 := by omega
            subst hd2
            have hh : (stk t k j).head? = some i := by rw [List.head?_eq_getElem?]; exact hs
            have hmem : i ∈ stk t k j := List.mem_of_getElem? hs
            refine .inr ⟨j, by omega, (stk_mem j i hmem).1, ?_, c2, hh, ?_⟩
            · rw [hm, fsc, if_neg c1, if_pos c2, if_pos hd1]
            · rw [stk_shut c2]
              have hnd := stk_nodup t k j
              cases hst : stk t k j with
              | nil => rw [hst] at hmem; simp at hmem
              | cons a l =>
                rw [hst] at hh hnd
                simp only [List.head?_cons, Option.some.injEq] at hh
                subst hh
                exact (List.nodup_cons.1 hnd).1
          · refine .inl ⟨d - 1, by omega, ?_, ?_⟩
            · rw [stk_shut c2, List.getElem?_tail, show d - 1 - 1 + 1 = d - 1 by omega]
              exact hs
            · rw [hm, fsc, if_neg c1, if_pos c2, if_neg hd1]
        · refine .inl ⟨d, hd, ?_, ?_⟩
          · rw [stk_else c1 c2]; exact hs
          · rw [hm, fsc, if_neg c1, if_neg c2]
    · refine .inr ⟨m, by omega, h2, h3, h4, h5, ?_⟩
      rw [show i + 1 + (n + 1) = i + 1 + n + 1 by omega]
      by_cases c1 : t[i + 1 + n]? = some (opn k)
      · rw [stk_open c1]
        intro h
        rcases List.mem_cons.1 h with h | h
        · omega
        · exact h6 h
      · by_cases c2 : t[i + 1 + n]? = some (sht k)
        · rw [stk_shut c2]
          exact fun h => h6 (List.mem_of_mem_tail h)
        · rw [stk_else c1 c2]; exact h6
/-- The mate of an opening bracket is the closing one at which it lies on top. -/
theorem mateO_iff {t : List Int} {k i j : Nat} (hi : t[i]? = some (opn k)) : mateO t k i = some j ↔ t[j]? = some (sht k) ∧ (stk t k j).head? = some i := by
  constructor
  · intro h
    obtain ⟨g1, g2, g3⟩ := fsc_ge _ _ _ _ h
    have hil : i < t.length := (List.getElem?_eq_some_iff.1 hi).1
    rcases mate_state hi (j + 1) (by omega) (by omega) with ⟨d, hd, hs, hm⟩ | ⟨m, h1, h2, h3, h4, h5, h6⟩
    · rw [hm] at h
      have := fsc_ge _ _ _ _ h
      omega
    · rw [h] at h3
      injection h3 with h3
      subst h3
      exact ⟨h4, h5⟩
  · rintro ⟨h1, h2⟩
    have hjl : j < t.length := (List.getElem?_eq_some_iff.1 h1).1
    have hmem : i ∈ stk t k j := List.mem_of_head? h2
    rcases mate_state hi j (stk_mem j i hmem).1 (by omega) with ⟨d, hd, hs, hm⟩ | ⟨m, _, _, _, _, _, h6⟩
    · rw [List.head?_eq_getElem?] at h2
      have hnd := stk_nodup t k j
      have hlen : d - 1 < (stk t k j).length := (List.getElem?_eq_some_iff.1 hs).1
      have hd1 : d - 1 = 0 := by
        exact (List.getElem?_inj hlen hnd).1 (hs.trans h2.symm)
      have hd2 : d = 1 := by omega
      subst hd2
      obtain ⟨f, hf⟩ : ∃ f, t.length - j = f + 1 := ⟨t.length - j - 1, by omega⟩
      rw [hm, hf, fsc, if_neg (by rw [h1]; intro e; injection e with e; exact opn_sht k k e.symm), if_pos h1, if_pos (by omega)]
    · exact absurd hmem h6
/-- Where the mate of a rune stands; none: it is no bracket, or has none. -/
def mate (t : List Int) (i : Nat) : Option Nat := match t[i]? with
  | none => none
  | some c => match kdo c with
    | some k => mateO t k i
    | none => match kds c with
      | some k => (stk t k i).head?
      | none => none
theorem mate_open {t : List Int} {i k : Nat} (hk : k < 3) (h : t[i]? = some (opn k)) : mate t i = mateO t k i := by simp [mate, h, kdo_opn hk]
theorem mate_shut {t : List Int} {i k : Nat} (hk : k < 3) (h : t[i]? = some (sht k)) : mate t i = (stk t k i).head? := by simp [mate, h, kdo_sht, kds_sht hk]
theorem mate_none {t : List Int} {i : Nat} {c : Int} (h : t[i]? = some c) (h1 : kdo c = none) (h2 : kds c = none) : mate t i = none := by simp [mate, h, h1, h2]
theorem mate_far {t : List Int} {i : Nat} (h : t.length ≤ i) : mate t i = none := by simp [mate, List.getElem?_eq_none h]
/-- The mate's mate. -/
theorem mate_mate {t : List Int} {i m : Nat} (h : mate t i = some m) : mate t m = some i ∧ m ≠ i ∧ m < t.length ∧ i < t.length := by
  cases hc : t[i]? with
  | none => simp [mate, hc] at h
  | some c =>
    have hil : i < t.length := (List.getElem?_eq_some_iff.1 hc).1
    cases ho : kdo c with
    | some k =>
      obtain ⟨rfl, hk⟩ := kdo_some ho
      rw [mate_open hk hc] at h
      obtain ⟨h1, h2⟩ := (mateO_iff hc).1 h
      have := (stk_mem m i (List.mem_of_head? h2)).1
      exact ⟨by rw [mate_shut hk h1]; exact h2, by omega, (List.getElem?_eq_some_iff.1 h1).1, hil⟩
    | none =>
      cases hs : kds c with
      | some k =>
        obtain ⟨rfl, hk⟩ := kds_some hs
        rw [mate_shut hk hc] at h
        obtain ⟨h1, h2⟩ := stk_mem i m (List.mem_of_head? h)
        refine ⟨?_, by omega, by omega, hil⟩
        rw [mate_open hk h2]
        exact (mateO_iff h2).2 ⟨hc, h⟩
      | none => rw [mate_none hc ho hs] at h; cases h
theorem mate_kind {t : List Int} {i m : Nat} (h : mate t i = some m) : ∃ k, k < 3 ∧ ((t[i]? = some (opn k) ∧ t[m]? = some (sht k) ∧ i < m) ∨ (t[i]? = some (sht k) ∧ t[m]? = some (opn k) ∧ m < i)) := by
  cases hc : t[i]? with
  | none => simp [mate, hc] at h
  | some c =>
    cases ho : kdo c with
    | some k =>
      obtain ⟨rfl, hk⟩ := kdo_some ho
      rw [mate_open hk hc] at h
      obtain ⟨h1, h2⟩ := (mateO_iff hc).1 h
      exact ⟨k, hk, .inl ⟨rfl, h1, (stk_mem m i (List.mem_of_head? h2)).1⟩⟩
    | none =>
      cases hs : kds c with
      | some k =>
        obtain ⟨rfl, hk⟩ := kds_some hs
        rw [mate_shut hk hc] at h
        obtain ⟨h1, h2⟩ := stk_mem i m (List.mem_of_head? h)
        exact ⟨k, hk, .inr ⟨rfl, h2, h1⟩⟩
      | none => rw [mate_none hc ho hs] at h; cases h
/-- The mates that are known behind so many runes; -1: none is. -/
def mm (t : List Int) (j i : Nat) : Int := if i < j then (match mate t i with | some m => if m < j then (m : Int) else -1 | none => -1) else 0
def mls (t : List Int) (j : Nat) : List Int := (List.range t.length).map (mm t j)
theorem mls_len (t : List Int) (j : Nat) : (mls t j).length = t.length := by simp [mls]
theorem mls_get {t : List Int} {j i : Nat} (h : i < t.length) : (mls t j)[i]? = some (mm t j i) := by simp [mls, h]
theorem mls_zero (t : List Int) : mls t 0 = List.replicate t.length 0 := by
  apply List.ext_getElem?
  intro i
  by_cases h : i < t.length
  · rw [mls_get h, List.getElem?_replicate, if_pos h]; simp [mm]
  · rw [List.getElem?_eq_none (by rw [mls_len]; omega), List.getElem?_eq_none (by simp; omega)]
/-- The mate of a rune as a number; -1: none. -/
def mt (t : List Int) (i : Nat) : Int := match mate t i with | some m => (m : Int) | none => -1
theorem mls_all {t : List Int} {i : Nat} (h : i < t.length) : (mls t t.length)[i]? = some (mt t i) := by
  rw [mls_get h]
  unfold mm mt
  rw [if_pos h]
  cases hm : mate t i with
  | none => rfl
  | some m => simp only [if_pos (mate_mate hm).2.2.1]
/-- A rune without a mate at or ahead of it. -/
theorem mls_step {t : List Int} {j : Nat} (h : j < t.length) (hj : ∀ m, mate t j = some m → j < m) : mls t (j + 1) = (mls t j).set j (-1) := by
  apply List.ext_getElem?
  intro i
  by_cases hi : i < t.length
  · rw [mls_get hi]
    by_cases e : i = j
    · subst e
      rw [List.getElem?_set_self (by rw [mls_len]; exact hi)]
      unfold mm
      rw [if_pos (by omega)]
      cases hm : mate t i with
      | none => rfl
      | some m => have := hj m hm; simp only [if_neg (show ¬ m < i + 1 by omega)]
    · rw [List.getElem?_set_ne (fun e' => e e'.symm), mls_get hi]
      unfold mm
      by_cases hij : i < j
      · rw [if_pos hij, if_pos (by omega)]
        cases hm : mate t i with
        | none => rfl
        | some m =>
          have hne : m ≠ j := by
            rintro rfl
            have := hj i (mate_mate hm).1
            omega
          by_cases hmj : m < j
          · simp only [if_pos hmj, if_pos (show m < j + 1 by omega)]
          · simp only [if_neg hmj, if_neg (show ¬ m < j + 1 by omega)]
      · rw [if_neg hij, if_neg (by omega)]
  · rw [List.getElem?_eq_none (by rw [mls_len]; omega), List.getElem?_eq_none (by rw [List.length_set, mls_len]; omega)]
/-- A closing bracket whose mate stands ahead. -/
theorem mls_pair {t : List Int} {j p : Nat} (h : j < t.length) (hj : mate t j = some p) (hp : p < j) : mls t (j + 1) = (((mls t j).set j (-1)).set j (p : Int)).set p (j : Int) := by
  have hmp := (mate_mate hj).1
  apply List.ext_getElem?
  intro i
  by_cases hi : i < t.length
  · rw [mls_get hi]
    by_cases e : i = p
    · subst e
      rw [List.getElem?_set_self (by rw [List.length_set, List.length_set, mls_len]; exact hi)]
      unfold mm
      rw [if_pos (by omega), hmp]
      simp
    · rw [List.getElem?_set_ne (fun e' => e e'.symm)]
      by_cases e2 : i = j
      · subst e2
        rw [List.getElem?_set_self (by rw [List.length_set, mls_len]; exact hi)]
        unfold mm
        rw [if_pos (by omega), hj]
        simp only [if_pos (show p < i + 1 by omega)]
      · rw [List.getElem?_set_ne (fun e' => e2 e'.symm), List.getElem?_set_ne (fun e' => e2 e'.symm), mls_get hi]
        unfold mm
        by_cases hij : i < j
        · rw [if_pos hij, if_pos (by omega)]
          cases hm : mate t i with
          | none => rfl
          | some m =>
            have hne : m ≠ j := by
              rintro rfl
              have := (mate_mate hm).1
              rw [hj] at this
              injection this with this
              exact e this.symm
            by_cases hmj : m < j
            · simp only [if_pos hmj, if_pos (show m < j + 1 by omega)]
            · simp only [if_neg hmj, if_neg (show ¬ m < j + 1 by omega)]
        · rw [if_neg hij, if_neg (by omega)]
  · rw [List.getElem?_eq_none (by rw [mls_len]; omega), List.getElem?_eq_none (by rw [List.length_set, List.length_set, List.length_set, mls_len]; omega)]
/-- A bracket? -/
def isBr (c : Int) : Bool := (kdo c).isSome || (kds c).isSome
theorem isBr_iff {c : Int} : isBr c = true ↔ c = 40 ∨ c = 91 ∨ c = 123 ∨ c = 41 ∨ c = 93 ∨ c = 125 := by
  unfold isBr kdo kds
  constructor
  · intro h
    by_cases h1 : c = 40
    · exact .inl h1
    by_cases h2 : c = 91
    · exact .inr (.inl h2)
    by_cases h3 : c = 123
    · exact .inr (.inr (.inl h3))
    by_cases h4 : c = 41
    · exact .inr (.inr (.inr (.inl h4)))
    by_cases h5 : c = 93
    · exact .inr (.inr (.inr (.inr (.inl h5))))
    by_cases h6 : c = 125
    · exact .inr (.inr (.inr (.inr (.inr h6))))
    simp [h1, h2, h3, h4, h5, h6] at h
  · rintro (rfl | rfl | rfl | rfl | rfl | rfl) <;> decide
theorem mate_nobr {t : List Int} {i : Nat} {c : Int} (h : t[i]? = some c) (hb : isBr c = false) : mate t i = none := by
  unfold isBr at hb
  rw [Bool.or_eq_false_iff] at hb
  exact mate_none h (by simpa using hb.1) (by simpa using hb.2)
/-- The first bracket's mate, from an offset on, up to another one. -/
def prm (t : List Int) (h : Nat) : Nat → Nat → Option Nat
  | 0, _ => none
  | f + 1, j => if j < h then (match t[j]? with | some c => if isBr c = true then mate t j else prm t h f (j + 1) | none => none) else none
def pair (t : List Int) (at' : Nat) : Option Nat := prm t (en t at') (t.length + 1) at'
theorem prm_out {t : List Int} {h f j : Nat} (hj : ¬ j < h) : prm t h f j = none := by
  cases f with
  | zero => rfl
  | succ f => rw [prm, if_neg hj]
theorem prm_hit {t : List Int} {h f j : Nat} {c : Int} (hj : j < h) (hc : t[j]? = some c) (hb : isBr c = true) : prm t h (f + 1) j = mate t j := by
  rw [prm, if_pos hj, hc]
  simp only [if_pos hb]
theorem prm_skip {t : List Int} {h f j : Nat} {c : Int} (hj : j < h) (hc : t[j]? = some c) (hb : isBr c = false) : prm t h (f + 1) j = prm t h f (j + 1) := by
  rw [prm, if_pos hj, hc]
  simp [hb]
/-- The so-manieth pair around an offset, going to the left from ahead of one. -/
def arn (t : List Int) (at' : Int) (kind : Int) : Nat → Nat → Option (Nat × Int)
  | 0, _ => none
  | j + 1, c => if t[j]? = some kind ∧ at' ≤ mt t j then (if c ≤ 1 then some (j, mt t j) else arn t at' kind j (c - 1)) else arn t at' kind j c
def around (t : List Int) (at' : Nat) (kind : Int) (count : Nat) : Option (Nat × Int) := arn t at' kind (min (at' + 1) t.length) count
theorem arn_some {t : List Int} {a : Int} {kind : Int} : ∀ j c x y, 0 ≤ a → arn t a kind j c = some (x, y) → x < j ∧ t[x]? = some kind ∧ a ≤ y ∧ y = mt t x
  | 0, c, x, y, _, h => by simp [arn] at h
  | j + 1, c, x, y, ha, h => by
    unfold arn at h
    split at h
    · rename_i hc
      split at h
      · injection h with h
        injection h with h1 h2
        subst h1 h2
        exact ⟨by omega, hc.1, hc.2, rfl⟩
      · have := arn_some j _ x y ha h; exact ⟨by omega, this.2⟩
    · have := arn_some j _ x y ha h; exact ⟨by omega, this.2⟩
end Go.Proofs.YtohmhjeimeilcaaDoor.Rw
