/-
  WHERE A RUNE STANDS AMONG A TEXT's BYTES, of the program; Rest.
-/
import Derived.Test.YtpgoikecignldaaDoorPd
set_option linter.unusedVariables false
namespace Go.Proofs.YtpgoikecignldaaDoor
open Go Go.RowKit

set_option maxRecDepth 100000 in
theorem byteOf_yes (s : ByteArray) (k : Nat) (w : World) (hsz : s.size ≤ 4000) (hk : k ≤ (rs s).length) :
    Calls Tryd.prog 43 #[.string s, .int .i64 k] w fun e w' => (∃ b : Nat, e = .returned (.tuple #[.int .i64 b, .bool true]) ∧ b ≤ s.size ∧ Utf.runes (s.data.toList.drop b) = (rs s).drop k) ∧ Kept (fun _ => False) w w' := by
  have hl := rs_len s
  have hrs : Utf.runes s.data.toList = rs s := rfl
  generalize rs s = t at *
  have HRS := Lib.hid hrs
  clear hrs
  have HI0 : Hid ((w.alloc (.stringIter s 0)).heap[w.heap.size]? = some (.stringIter s 0)) := heap_alloc_new w _
  have HK0 : Hid (Kept (fun _ => False) w (w.alloc (.stringIter s 0))) := (Kept.refl _ w).alloc _
  go_enter Tryd.func43, Tryd.ntmps43
  go_wp2
  unfold World.iter
  generalize w.alloc (.stringIter s 0) = W at *
  obtain ⟨gi, hgi⟩ : ∃ gi, w.heap.size = gi := ⟨_, rfl⟩
  have HGI := Lib.hid hgi
  simp only [hgi] at HI0 ⊢
  clear hgi
  go_loopw [6] (fun v wr => ∃ j pos : Nat, j ≤ k ∧ v = .int .i64 j ∧ wr.heap[gi]? = some (.stringIter s pos) ∧ Utf.runes (s.data.toList.drop pos) = t.drop j ∧ Kept (fun _ => False) w wr) (fun _ wr => s.size - wr.iterPos gi)
  case atStart => exact ⟨0, 0, Nat.zero_le _, rfl, HI0.out, by rw [List.drop_zero, List.drop_zero]; exact HRS.out, HK0.out⟩
  case round =>
    obtain ⟨j, pos, hj, rfl, hi, hdr, hkw⟩ := hrel
    have hpos := iterPos_at hi
    have HKW := Lib.hid hkw
    have HI := Lib.hid hi
    have HDR := Lib.hid hdr
    have HPOS := Lib.hid hpos
    clear hkw hi hdr hpos
    by_cases hps : pos < s.size
    · obtain ⟨hc, hdr2, hlt⟩ := rune_step HDR.out hps
      have hnx : ∀ ty, (Instr.next (.pointer (some ⟨gi, 0, none⟩)) true ty).run Tryd.prog wr = _ := fun ty => run_next_at wr gi s pos ty HI.out hps
      have HDR2 := Lib.hid hdr2
      have HI2 := Lib.hid (iter_same (s := s) (pos := pos + (Utf8.decode s pos).2) HI.out)
      have HK2 : Hid (Kept (fun _ => False) w (setIter wr gi s (pos + (Utf8.decode s pos).2))) := HKW.out.fresh (Kept.iter wr gi s _) (fun b hb e => by have := HGI.out; omega)
      have HP2 := Lib.hid (iterPos_at HI2.out)
      generalize (Utf8.decode s pos).2 = wd at *
      generalize setIter wr gi s (pos + wd) = W2 at *
      clear hc hdr2
      by_cases hjk : j = k
      · subst hjk
        go_wp2
        exact bodyPost_ret (v := .tuple #[.int .i64 (pos : Nat), .bool true]) (by simp [results, Tryd.results43, go_sem]) rfl ⟨⟨pos, rfl, by omega, HDR.out⟩, HK2.out⟩
      · have e1 : ((j : Int) == (k : Int)) = false := by rw [beq_eq_false_iff_ne]; omega
        have e2 : (j == k) = false := by rw [beq_eq_false_iff_ne]; exact hjk
        have hjk1 : j + 1 ≤ k := by omega
        clear hjk
        go_wp2
        go_roundw
        case rel => exact ⟨j + 1, pos + wd, hjk1, by go_num, HI2.out, HDR2.out, HK2.out⟩
        case measure => rw [HP2.out, HPOS.out]; omega
    · have hjn := rune_stop HDR.out hps (by omega)
      have hnx : ∀ ty, (Instr.next (.pointer (some ⟨gi, 0, none⟩)) true ty).run Tryd.prog wr = _ := fun ty => run_next_done wr gi s pos ty HI.out hps
      obtain rfl : j = k := by omega
      have HDR3 : Hid (Utf.runes (s.data.toList.drop s.size) = t.drop j) := by show _ = _; rw [rune_end s s.size (by omega), List.drop_eq_nil_of_le (by omega)]
      clear hps hjn
      go_wp2
      exact bodyPost_ret (v := .tuple #[.int .i64 (s.size : Nat), .bool true]) (by simp [results, Tryd.results43, go_sem]) rfl ⟨⟨s.size, rfl, Nat.le_refl _, HDR3.out⟩, HKW.out⟩
/-- Where normal mode's cursor stands. -/
def Rw.rst (t : List Int) (k : Nat) : Nat := if Rw.en t k = k ∧ Rw.beg t k < k then k - 1 else k
theorem Rw.rst_le (t : List Int) (k : Nat) : Rw.rst t k ≤ k := by unfold Rw.rst; split <;> omega
theorem ten_at {s : ByteArray} {t : List Int} {b k : Nat} (h : Utf.runes (s.data.toList.drop b) = t.drop k) (hb : b < s.size) : ((s[b]'hb).toNat = 10 ↔ t[k]? = some 10) := by
  obtain ⟨hc, _, _⟩ := rune_step h hb
  rw [hc]
  by_cases ha : (s[b]'hb).toNat < 128
  · rw [decode_ascii s b hb ha]
    constructor
    · intro e; simp [e]
    · intro e; injection e with e; simpa using (by exact_mod_cast e : ((s[b]'hb).toNat : Nat) = 10)
  · have := (decode_high s b hb (by omega)).1
    constructor
    · intro e; omega
    · intro e; injection e with e; omega
end Go.Proofs.YtpgoikecignldaaDoor
