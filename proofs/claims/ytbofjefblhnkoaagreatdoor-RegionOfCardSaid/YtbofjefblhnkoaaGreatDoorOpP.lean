/-
  PLAIN: what operators make of a text: letters turned, pieces taken away; such texts may be.
-/
import Derived.Test.YtbofjefblhnkoaaGreatDoorChP
import Derived.Test.YtbofjefblhnkoaaGreatDoorTxt
set_option linter.unusedVariables false
namespace Go.Proofs.YtbofjefblhnkoaaGreatDoor
open Go Go.RowKit

theorem Rw.csd_len {t : List Int} {lo hi : Nat} {key : Int} (h1 : lo ≤ hi) (h2 : hi ≤ t.length) : (Rw.csd t lo hi key).length = t.length := by
  unfold Rw.csd
  simp
  omega
theorem Rw.csd_at {t : List Int} {lo hi : Nat} {key : Int} (h1 : lo ≤ hi) (h2 : hi ≤ t.length) (i : Nat) : (Rw.csd t lo hi key)[i]? = if lo ≤ i ∧ i < hi then (t[i]?).map (Rw.trn key) else t[i]? := by
  unfold Rw.csd
  rw [List.append_assoc, List.getElem?_append, List.getElem?_append]
  simp only [List.length_take, List.length_map, List.length_drop]
  rw [show min lo t.length = lo by omega, show min hi t.length - lo = hi - lo by omega]
  by_cases a : i < lo
  · rw [if_pos a, List.getElem?_take, if_pos a, if_neg (by omega)]
  · rw [if_neg a]
    by_cases b : i - lo < hi - lo
    · rw [if_pos b, List.getElem?_map, List.getElem?_drop, List.getElem?_take, if_pos (by omega), if_pos (by omega), show lo + (i - lo) = i by omega]
    · rw [if_neg b, List.getElem?_drop, if_neg (by omega), show hi + (i - lo - (hi - lo)) = i by omega]
theorem Rw.csd_10 {t : List Int} {lo hi : Nat} {key : Int} (h1 : lo ≤ hi) (h2 : hi ≤ t.length) (i : Nat) : (Rw.csd t lo hi key)[i]? = some 10 ↔ t[i]? = some 10 := by
  rw [Rw.csd_at h1 h2]
  split
  · cases h : t[i]? with
    | none => simp
    | some c => simp [Rw.trn_10]
  · exact Iff.rfl
theorem Rw.csd_rst {t : List Int} {lo hi : Nat} {key : Int} (h1 : lo ≤ hi) (h2 : hi ≤ t.length) (k : Nat) (hk : k ≤ t.length) : Rw.rstP (Rw.csd t lo hi key) k = Rw.rstP t k :=
  Rw.rst_same (Rw.csd_len h1 h2) (Rw.csd_10 h1 h2) k (by rw [Rw.csd_len h1 h2]; exact hk)
theorem Rw.cut3 (t : List Int) {lo hi : Nat} (h1 : lo ≤ hi) : t.take lo ++ (t.take hi).drop lo ++ t.drop hi = t := by
  have e : t.take lo = (t.take hi).take lo := by rw [List.take_take, Nat.min_eq_left h1]
  rw [e, List.take_append_drop, List.take_append_drop]
theorem trn_vld {key c : Int} (h : Utf8.valid c = true) : Utf8.valid (Rw.trn key c) = true := by
  have hv := Utf.int_valid h
  unfold Rw.trn
  split
  · exact Utf.valid_int (by omega)
  · split
    · exact Utf.valid_int (by omega)
    · exact h
theorem trn_zero {key c : Int} (h : c ≠ 0) : Rw.trn key c ≠ 0 := by
  unfold Rw.trn
  split
  · omega
  · split
    · omega
    · exact h
theorem enc_ascii {n : Int} (h : 0 ≤ n ∧ n < 128) : (Utf.enc n).length = 1 := by
  obtain ⟨c, rfl⟩ := Int.eq_ofNat_of_zero_le h.1
  rw [Utf.enc_of (Utf.valid_nat (by omega)), if_pos (by omega)]
  rfl
theorem trn_enc (key c : Int) : (Utf.enc (Rw.trn key c)).length = (Utf.enc c).length := by
  unfold Rw.trn
  split
  · rw [enc_ascii (by omega), enc_ascii (by omega)]
  · split
    · rw [enc_ascii (by omega), enc_ascii (by omega)]
    · rfl
theorem trn_bytes (key : Int) : ∀ l : List Int, (Utf.bytes (l.map (Rw.trn key))).length = (Utf.bytes l).length
  | [] => rfl
  | c :: l => by
    show (Utf.enc (Rw.trn key c) ++ Utf.bytes (l.map (Rw.trn key))).length = (Utf.enc c ++ Utf.bytes l).length
    rw [List.length_append, List.length_append, trn_enc, trn_bytes key l]
theorem csd_bytes (t : List Int) {lo hi : Nat} (key : Int) (h1 : lo ≤ hi) : (Utf.bytes (Rw.csd t lo hi key)).length = (Utf.bytes t).length := by
  conv => rhs; rw [← Rw.cut3 t h1]
  unfold Rw.csd
  simp only [Utf.bytes_append, List.length_append, trn_bytes]
theorem csd_mem {t : List Int} {lo hi : Nat} {key r : Int} (h : r ∈ Rw.csd t lo hi key) : ∃ c ∈ t, r = c ∨ r = Rw.trn key c := by
  unfold Rw.csd at h
  simp only [List.mem_append, List.mem_map] at h
  rcases h with (h | ⟨c, h, rfl⟩) | h
  · exact ⟨r, List.mem_of_mem_take h, .inl rfl⟩
  · exact ⟨c, List.mem_of_mem_take (List.mem_of_mem_drop h), .inr rfl⟩
  · exact ⟨r, List.mem_of_mem_drop h, .inl rfl⟩
theorem csd_vld {t : List Int} {lo hi : Nat} {key : Int} (h : Vld t) : Vld (Rw.csd t lo hi key) := by
  intro r hr
  obtain ⟨c, hc, rfl | rfl⟩ := csd_mem hr
  · exact h _ hc
  · exact trn_vld (h c hc)
theorem rs_bytes {s : ByteArray} (h : mayB s = true) : (Utf.bytes (rs s)).length = s.size := by
  unfold rs
  rw [Utf.bytes_runes (mayB_valid h)]
  exact (Lib.size_eq s).symm
theorem may_csd {s : ByteArray} {lo hi : Nat} {key : Int} (h : mayB s = true) (h1 : lo ≤ hi) : mayB (runesBytes (Rw.csd (rs s) lo hi key)) = true := by
  rw [may_txt (csd_vld (rs_vld h)) (fun hz => by
    obtain ⟨c, hc, e | e⟩ := csd_mem hz
    · exact rs_zero h (by rw [e]; exact hc)
    · exact trn_zero (fun e0 => rs_zero h (by rw [← e0]; exact hc)) e.symm), csd_bytes _ _ h1, rs_bytes h]
  exact decide_eq_true (mayB_size h)
theorem Rw.lft_len (t : List Int) (lo hi : Nat) (h1 : lo ≤ hi) (h2 : hi ≤ t.length) : (Rw.lft t lo hi).length = lo + (t.length - hi) := by
  unfold Rw.lft
  simp
  omega
theorem Rw.dcase (t : List Int) (lo hi : Nat) (line : Bool) :
    (line = true ∧ hi < t.length ∧ Rw.dlo t lo hi line = lo ∧ Rw.dhi t lo hi line = hi + 1) ∨ (line = true ∧ ¬ hi < t.length ∧ 0 < lo ∧ Rw.dlo t lo hi line = lo - 1 ∧ Rw.dhi t lo hi line = hi) ∨
    (line = true ∧ ¬ hi < t.length ∧ lo = 0 ∧ Rw.dlo t lo hi line = lo ∧ Rw.dhi t lo hi line = hi) ∨ (line = false ∧ Rw.dlo t lo hi line = lo ∧ Rw.dhi t lo hi line = hi) := by
  unfold Rw.dlo Rw.dhi
  cases line with
  | false => exact .inr (.inr (.inr ⟨rfl, if_neg (by simp), if_neg (by simp)⟩))
  | true =>
    by_cases a : hi < t.length
    · exact .inl ⟨rfl, a, if_neg (fun h => h.2.1 a), if_pos ⟨rfl, a⟩⟩
    · by_cases b : 0 < lo
      · exact .inr (.inl ⟨rfl, a, b, if_pos ⟨rfl, a, b⟩, if_neg (fun h => a h.2)⟩)
      · exact .inr (.inr (.inl ⟨rfl, a, by omega, if_neg (fun h => b h.2.2), if_neg (fun h => a h.2)⟩))
theorem Rw.dlo_le (t : List Int) (lo hi : Nat) (line : Bool) (h1 : lo ≤ hi) (h2 : hi ≤ t.length) : Rw.dlo t lo hi line ≤ Rw.dhi t lo hi line ∧ Rw.dhi t lo hi line ≤ t.length ∧ Rw.dlo t lo hi line ≤ lo := by
  rcases Rw.dcase t lo hi line with ⟨_, h⟩ | ⟨_, h⟩ | ⟨_, h⟩ | ⟨_, h⟩ <;> omega
theorem Rw.dlo_min (t : List Int) (lo hi : Nat) (h1 : lo ≤ hi) (h2 : hi ≤ t.length) : min lo (Rw.lft t (Rw.dlo t lo hi true) (Rw.dhi t lo hi true)).length = Rw.dlo t lo hi true := by
  have h := Rw.dlo_le t lo hi true h1 h2
  rw [Rw.lft_len _ _ _ h.1 h.2.1]
  rcases Rw.dcase t lo hi true with ⟨_, h⟩ | ⟨_, h⟩ | ⟨_, h⟩ | ⟨e, h⟩
  · omega
  · omega
  · omega
  · cases e
/-- What a range takes. -/
def Rw.tkn (t : List Int) (lo hi : Nat) : List Int := (t.take hi).drop lo
end Go.Proofs.YtbofjefblhnkoaaGreatDoor
