/-
  THE GAP BUFFER: what is asked first, and the pieces that are told.
-/
import Derived.Test.YthhlchgnjdfpeaaDoorGap4
set_option linter.unusedVariables false
namespace Go.Proofs.YthhlchgnjdfpeaaDoor
open Go Go.RowKit
section
variable {w : World} {rb room cb n c low high : Nat} {moves : Int} {zs t : List Int}

theorem has_true (h : GS w rb room cb n c low high moves zs t) (i m : Int) (hi : 0 ≤ i) (hm : 0 ≤ m) (him : i + m ≤ t.length) :
    Calls Tryd.prog 27 #[.pointer (some ⟨rb, 0, none⟩), .int .i64 i, .int .i64 m] w fun e w' => e = .returned (.bool true) ∧ ∃ k, w' = w.drewN k := by
  have hlen := h.len
  have hr := h.nr
  have hrr := h.rr
  have b1 : decide (i ≤ ((t.length : Nat) : Int)) = true := by simp; omega
  have b2 : decide (m ≤ ((t.length : Nat) : Int) - i) = true := by simp; omega
  have HG := Lib.hid h
  have hlt : t.length ≤ 10000 := by omega
  clear h hlen
  go_enter Tryd.func27, Tryd.ntmps27
  go_wp2_with (first | (go_at_call 20; refine (G_len HG.out).mono ?_; rintro e w' ⟨rfl, k, rfl⟩) | (go_at_call 20; refine (G_len (HG.out.drewN _)).mono ?_; rintro e w' ⟨rfl, k, rfl⟩))
  go_ret
  exact ⟨rfl, _, rfl⟩
theorem has_false (h : GS w rb room cb n c low high moves zs t) (i m : Int) (hno : ¬ (0 ≤ i ∧ 0 ≤ m ∧ i + m ≤ t.length)) (hb : -9223372036854775808 ≤ i ∧ i ≤ 9223372036854775807) (hb' : -9223372036854775808 ≤ m ∧ m ≤ 9223372036854775807) :
    Calls Tryd.prog 27 #[.pointer (some ⟨rb, 0, none⟩), .int .i64 i, .int .i64 m] w fun e w' => e = .returned (.bool false) ∧ ∃ k, w' = w.drewN k := by
  have hlen := h.len
  have hr := h.nr
  have hrr := h.rr
  have HG := Lib.hid h
  have hlt : t.length ≤ 10000 := by omega
  clear h hlen
  by_cases h1 : i < 0
  · clear hno
    go_enter Tryd.func27, Tryd.ntmps27
    go_wp2_with fail
    go_ret
    exact ⟨rfl, 0, rfl⟩
  by_cases h2 : m < 0
  · clear hno
    go_enter Tryd.func27, Tryd.ntmps27
    go_wp2_with fail
    go_ret
    exact ⟨rfl, 0, rfl⟩
  by_cases h3 : (t.length : Int) < i
  · have b1 : decide (i ≤ ((t.length : Nat) : Int)) = false := by simp; omega
    clear hno
    go_enter Tryd.func27, Tryd.ntmps27
    go_wp2_with (go_at_call 20; refine (G_len HG.out).mono ?_; rintro e w' ⟨rfl, k, rfl⟩)
    go_ret
    exact ⟨rfl, _, rfl⟩
  have b1 : decide (i ≤ ((t.length : Nat) : Int)) = true := by simp; omega
  have b2 : decide (m ≤ ((t.length : Nat) : Int) - i) = false := by simp; omega
  clear hno
  go_enter Tryd.func27, Tryd.ntmps27
  go_wp2_with (first | (go_at_call 20; refine (G_len HG.out).mono ?_; rintro e w' ⟨rfl, k, rfl⟩) | (go_at_call 20; refine (G_len (HG.out.drewN _)).mono ?_; rintro e w' ⟨rfl, k, rfl⟩))
  go_ret
  exact ⟨rfl, _, rfl⟩

theorem slice_yes (h : GS w rb room cb n c low high moves zs t) (i m : Nat) (him : i + m ≤ t.length) :
    Calls Tryd.prog 13 #[.pointer (some ⟨rb, 0, none⟩), .int .i64 i, .int .i64 m] w fun e w' => e = .returned (.tuple #[.string (runesBytes ((t.drop i).take m)), .int .i64 0]) ∧ ∃ k, w' = w.drewN k := by
  generalize hS : runesBytes ((t.drop i).take m) = S
  have HS := Lib.hid hS
  have HG := Lib.hid h
  clear h hS
  go_enter Tryd.func13, Tryd.ntmps13
  go_wp2_with (go_at_call 27; refine (has_true HG.out i m (by omega) (by omega) (by omega)).mono ?_; rintro e w' ⟨rfl, k, rfl⟩)
  refine (G_piece (HG.out.drewN _) i m him).mono ?_
  rintro e w' ⟨rfl, k, rfl⟩
  rw [HS.out]
  go_wp2_with fail
  go_ret2
  exact ⟨rfl, _, rfl⟩
theorem slice_no (h : GS w rb room cb n c low high moves zs t) (i m : Int) (hno : ¬ (0 ≤ i ∧ 0 ≤ m ∧ i + m ≤ t.length)) (hb : -9223372036854775808 ≤ i ∧ i ≤ 9223372036854775807) (hb' : -9223372036854775808 ≤ m ∧ m ≤ 9223372036854775807) :
    Calls Tryd.prog 13 #[.pointer (some ⟨rb, 0, none⟩), .int .i64 i, .int .i64 m] w fun e w' => e = .returned (.tuple #[.string ⟨#[]⟩, .int .i64 3]) ∧ ∃ k, w' = w.drewN k := by
  have HG := Lib.hid h
  have HN := Lib.hid hno
  clear h hno
  go_enter Tryd.func13, Tryd.ntmps13
  go_wp2_with (go_at_call 27; refine (has_false HG.out i m HN.out hb hb').mono ?_; rintro e w' ⟨rfl, k, rfl⟩)
  go_ret2
  exact ⟨rfl, _, rfl⟩
theorem text_any (h : GS w rb room cb n c low high moves zs t) :
    Calls Tryd.prog 19 #[.pointer (some ⟨rb, 0, none⟩)] w fun e w' => e = .returned (.string (runesBytes t)) ∧ ∃ k, w' = w.drewN k := by
  have HG := Lib.hid h
  clear h
  go_enter Tryd.func19, Tryd.ntmps19
  go_wp2_with (go_at_call 20; refine (G_len HG.out).mono ?_; rintro e w' ⟨rfl, k, rfl⟩)
  refine (G_piece (HG.out.drewN _) 0 t.length (by omega)).mono ?_
  rintro e w' ⟨rfl, k, rfl⟩
  rw [List.drop_zero, List.take_length]
  go_wp2_with fail
  go_ret
  exact ⟨rfl, _, rfl⟩
theorem gap_any (h : GS w rb room cb n c low high moves zs t) :
    Calls Tryd.prog 21 #[.pointer (some ⟨rb, 0, none⟩)] w fun e w' => e = .returned (.int .i64 low) ∧ w' = w := by
  have c2 := h.r.c2
  clear h
  go_enter Tryd.func21, Tryd.ntmps21
  go_wp2
  go_ret
  exact ⟨rfl, rfl⟩
theorem delete_yes (h : GS w rb room cb n c low high moves zs t) (i m : Nat) (him : i + m ≤ t.length) (hm : moves ≤ 1000000000000000000) :
    Calls Tryd.prog 12 #[.pointer (some ⟨rb, 0, none⟩), .int .i64 i, .int .i64 m] w fun e w' => e = .returned (.int .i64 0) ∧ Kept (fun k => k = rb ∨ k = cb) w w' ∧
      ∃ high' zs', GS w' rb room cb n c i high' (moves + (((low : Int) - (i : Int)).natAbs : Nat)) zs' (t.take i ++ t.drop (i + m)) := by
  have HG := Lib.hid h
  clear h
  go_enter Tryd.func12, Tryd.ntmps12
  go_wp2_with (go_at_call 27; refine (has_true HG.out i m (by omega) (by omega) (by omega)).mono ?_; rintro e w' ⟨rfl, k, rfl⟩)
  refine (G_carry (HG.out.drewN _) i (by omega) hm).mono ?_
  rintro e w' ⟨rfl, hk, high', zs', hh, hg⟩
  have HK : Kept (fun k => k = rb ∨ k = cb) w w' := ((Kept.refl _ w).drewN _).trans hk
  have hn := hg.hn
  have hl := hg.lh
  have hr := hg.nr
  have hrr := hg.rr
  have hlen := hg.len
  have c3 := hg.r.c3
  have f3 := hg.r.fr 3
  have HG2 := Lib.hid hg
  clear hg hk HG hlen
  have hle : high' + m ≤ n := by have := HG2.out.len; omega
  go_wp2
  go_ret
  refine ⟨rfl, HK.setCell (.inl rfl) _, high' + m, zs', ⟨?_, ?_, HG2.out.z, by omega, hle, HG2.out.nc, hr, hrr, HG2.out.m0, ?_⟩⟩
  · unfold RB
    rw [heap_set HG2.out.r _]
    simp
  · unfold CB
    rw [heap_far (HG2.out.r.ne HG2.out.b).symm]
    exact HG2.out.b
  · exact tx_cut zs' n i high' m hl hle (by rw [← HG2.out.z]; exact HG2.out.nc) t HG2.out.t
theorem delete_no (h : GS w rb room cb n c low high moves zs t) (i m : Int) (hno : ¬ (0 ≤ i ∧ 0 ≤ m ∧ i + m ≤ t.length)) (hb : -9223372036854775808 ≤ i ∧ i ≤ 9223372036854775807) (hb' : -9223372036854775808 ≤ m ∧ m ≤ 9223372036854775807) :
    Calls Tryd.prog 12 #[.pointer (some ⟨rb, 0, none⟩), .int .i64 i, .int .i64 m] w fun e w' => e = .returned (.int .i64 3) ∧ ∃ k, w' = w.drewN k := by
  have HG := Lib.hid h
  have HN := Lib.hid hno
  clear h hno
  go_enter Tryd.func12, Tryd.ntmps12
  go_wp2_with (go_at_call 27; refine (has_false HG.out i m HN.out hb hb').mono ?_; rintro e w' ⟨rfl, k, rfl⟩)
  go_ret
  exact ⟨rfl, _, rfl⟩
end
end Go.Proofs.YthhlchgnjdfpeaaDoor
