/-
  THE GAP BUFFER: what it refuses to be made of; its single runes; what it has carried.
-/
import Derived.Test.YthhlchgnjdfpeaaDoorLaw0
import Derived.Laws.LoneSync
set_option linter.unusedVariables false
namespace Go.Proofs.YthhlchgnjdfpeaaDoor
open Go Go.RowKit

theorem byte_good {n : Nat} (h : n < 256) (h0 : n ≠ 0) (h10 : n ≠ 10) : ((UInt8.ofNat n) != 10 && (UInt8.ofNat n) != 0) = true := by
  have e := Utf.toNat_ofNat h
  have a : UInt8.ofNat n ≠ 10 := fun hh => by rw [hh] at e; exact h10 e.symm
  have b : UInt8.ofNat n ≠ 0 := fun hh => by rw [hh] at e; exact h0 e.symm
  simp [a, b]
theorem enc_may {r : Int} (h : May r) : (Utf.enc r).all (fun b => b != 10 && b != 0) = true := by
  obtain ⟨h1, h2, h3, h4⟩ := h
  obtain ⟨c, rfl⟩ : ∃ c : Nat, r = (c : Int) := ⟨r.toNat, by omega⟩
  have hv : Utf8.valid (c : Int) = true := Utf.valid_nat (by omega)
  rw [Utf.enc_of hv]
  split
  · simp only [List.all_cons, List.all_nil, Bool.and_true]; exact byte_good (by omega) (by omega) (by omega)
  split
  · simp only [List.all_cons, List.all_nil, Bool.and_true]; rw [byte_good (by omega) (by omega) (by omega), byte_good (by omega) (by omega) (by omega)]; rfl
  split
  · simp only [List.all_cons, List.all_nil, Bool.and_true]; rw [byte_good (by omega) (by omega) (by omega), byte_good (by omega) (by omega) (by omega), byte_good (by omega) (by omega) (by omega)]; rfl
  · simp only [List.all_cons, List.all_nil, Bool.and_true]; rw [byte_good (by omega) (by omega) (by omega), byte_good (by omega) (by omega) (by omega), byte_good (by omega) (by omega) (by omega), byte_good (by omega) (by omega) (by omega)]; rfl
theorem may_rowB {l : List UInt8} (hv : Lib.validD l = true) (hm : ∀ r ∈ Utf.runes l, May r) : rowB l = true := by
  unfold rowB
  rw [hv, Bool.and_true]
  have e := Utf.bytes_runes hv
  rw [← e]
  generalize Utf.runes l = R at hm
  induction R with
  | nil => rfl
  | cons r R ih =>
    show (Utf.enc r ++ Utf.bytes R).all _ = true
    rw [List.all_append, enc_may (hm r (by simp)), ih (fun x hx => hm x (by simp [hx]))]
    rfl

theorem load64_any (a : Addr) (x : Int) (w : World) (hc : w.cell? a = some (.int .i64 x)) :
    Calls Tryd.prog 33 #[.pointer (some a)] w fun e w' => e = .returned (.int .i64 x) ∧ w' = w := by
  have hload := run_call_load (P := Tryd.prog) Tryd.func36 (by kernel_rfl) (by kernel_rfl) (by kernel_rfl) .i64 (by kernel_rfl) (x := x) hc
  clear hc
  go_enter Tryd.func33, Tryd.ntmps33
  go_wp2
  go_ret
  exact ⟨rfl, rfl⟩
section
variable {w : World} {rb room cb n c low high : Nat} {moves : Int} {zs t : List Int}
theorem moves_any (h : GS w rb room cb n c low high moves zs t) (hm : moves ≤ 1000000000000000000) :
    Calls Tryd.prog 22 #[.pointer (some ⟨rb, 0, none⟩)] w fun e w' => e = .returned (.int .i64 moves) ∧ w' = w := by
  have hm0 := h.m0
  have cL := load64_any ⟨rb, 4, none⟩ moves w h.r.c4
  clear h
  go_enter Tryd.func22, Tryd.ntmps22
  go_wp2_with (go_at_call 33; refine cL.mono ?_; rintro e w' ⟨rfl, rfl⟩)
  go_ret
  exact ⟨rfl, rfl⟩
def cellIx (low high i : Nat) : Nat := if i < low then i else i + high - low
theorem cell_ix (h : GS w rb room cb n c low high moves zs t) (i : Nat) (hi : i < t.length) : cellIx low high i < n ∧ zs[cellIx low high i]? = t[i]? := by
  have hlen := h.len
  have hn := h.hn
  have hl := h.lh
  have hnc := h.nc
  have hz := h.z
  have hg := tx_get zs n low high i hl hn (by omega)
  rw [h.t] at hg
  rw [hg]
  unfold cellIx
  by_cases hlt : i < low
  · rw [if_pos hlt, if_pos hlt]
    exact ⟨by omega, rfl⟩
  · rw [if_neg hlt, if_neg hlt, if_pos (by omega), show i + high - low = i + (high - low) by omega]
    exact ⟨by omega, rfl⟩
theorem cell_any (h : GS w rb room cb n c low high moves zs t) (i : Nat) (hi : i < t.length) :
    Calls Tryd.prog 30 #[.pointer (some ⟨rb, 0, none⟩), .int .i64 i] w fun e w' => e = .returned (.int .i64 (cellIx low high i : Nat)) ∧ ∃ k, w' = w.drewN k := by
  have hlen := h.len
  have hn := h.hn
  have hl := h.lh
  have hr := h.nr
  have hrr := h.rr
  have c2 := h.r.c2
  have c3 := h.r.c3
  clear h
  unfold cellIx
  by_cases hlt : i < low
  · rw [if_pos hlt]
    have b1 : decide (i < low) = true := by simp; omega
    go_enter Tryd.func30, Tryd.ntmps30
    go_wp2
    go_ret
    exact ⟨rfl, 0, rfl⟩
  · rw [if_neg hlt]
    have b1 : decide (i < low) = false := by simp; omega
    go_enter Tryd.func30, Tryd.ntmps30
    go_wp2
    go_quiet (fail)
    go_wp2
    go_ret
    refine ⟨?_, _, rfl⟩
    show Ending.returned (.int .i64 ((i : Int) + (high : Int) - (low : Int))) = _
    congr 2
    omega
theorem rune_yes (h : GS w rb room cb n c low high moves zs t) (i : Nat) (x : Int) (hi : t[i]? = some x) (hx : May x) :
    Calls Tryd.prog 14 #[.pointer (some ⟨rb, 0, none⟩), .int .i64 i] w fun e w' => e = .returned (.tuple #[.int .i64 x, .int .i64 0]) ∧ ∃ k, w' = w.drewN k := by
  have hlt : i < t.length := by
    by_cases hlt : i < t.length
    · exact hlt
    · rw [List.getElem?_eq_none (by omega)] at hi; cases hi
  have hlen := h.len
  have hr := h.nr
  have hrr := h.rr
  have b0 : decide ((i : Int) < 0) = false := by simp
  have b1 : decide (t.length ≤ i) = false := by simp; omega
  obtain ⟨hj, hz⟩ := cell_ix h i hlt
  have HC := Lib.hid (h.b.cell (hz.trans hi))
  have HG := Lib.hid h
  have x1 : IntKind.i64.wrap x = x := IntWalk.i64_in _ (by unfold May at hx; omega)
  clear h hz hi hx
  go_enter Tryd.func14, Tryd.ntmps14
  go_wp2_with (go_at_call 20; refine (G_len HG.out).mono ?_; rintro e w' ⟨rfl, k, rfl⟩)
  have cl := (HG.out.drewN k).r.c1
  have cC := fun q => cell_any ((HG.out.drewN k).drewN q) i hlt
  have hc : (w.drewN k).cell? ⟨cb, cellIx low high i, none⟩ = some (.int .i32 x) := HC.out
  generalize cellIx low high i = J at hj cC hc
  clear HC hlen
  generalize hw2 : w.drewN k = w2 at cl cC hc ⊢
  have HW := Lib.hid hw2
  clear hw2
  have b2 : decide (J < n) = true := by simp; omega
  go_quiet ((go_at_call 30; exact Calls.quiet_of (cC _)))
  go_wp2
  go_ret2
  exact ⟨rfl, k + nq, by rw [← HW.out, World.drewN_drewN]⟩
theorem rune_no (h : GS w rb room cb n c low high moves zs t) (i : Int) (hi : i < 0 ∨ (t.length : Int) ≤ i) :
    Calls Tryd.prog 14 #[.pointer (some ⟨rb, 0, none⟩), .int .i64 i] w fun e w' => e = .returned (.tuple #[.int .i64 0, .int .i64 3]) ∧ ∃ k, w' = w.drewN k := by
  have HG := Lib.hid h
  clear h
  by_cases h1 : i < 0
  · have b0 : decide (i < 0) = true := by simp; omega
    clear hi
    go_enter Tryd.func14, Tryd.ntmps14
    go_wp2_with fail
    go_ret2
    exact ⟨rfl, 0, rfl⟩
  · have b0 : decide (i < 0) = false := by simp; omega
    have b1 : decide (((t.length : Nat) : Int) ≤ i) = true := by simp; omega
    clear hi
    go_enter Tryd.func14, Tryd.ntmps14
    go_wp2_with (go_at_call 20; refine (G_len HG.out).mono ?_; rintro e w' ⟨rfl, k, rfl⟩)
    go_ret2
    exact ⟨rfl, _, rfl⟩
end

theorem new_room (s : ByteArray) (room : Int) (w : World) (h : ¬ (0 ≤ room ∧ room ≤ 1100)) :
    Calls Tryd.prog 6 #[.int .i64 room, .string s] w fun e w' => e = .returned (.tuple #[.pointer none, .int .i64 1]) ∧ Kept (fun _ => False) w w' := by
  by_cases h0 : room < 0
  · have b0 : decide (room < 0) = true := by simp; omega
    clear h
    go_enter Tryd.func6, Tryd.ntmps6
    go_wp2_with fail
    go_ret2
    exact ⟨rfl, Kept.refl _ _⟩
  · have b0 : decide (room < 0) = false := by simp; omega
    have b1 : decide (1100 < room) = true := by simp; omega
    clear h
    go_enter Tryd.func6, Tryd.ntmps6
    go_wp2_with fail
    go_ret2
    exact ⟨rfl, Kept.refl _ _⟩

set_option maxHeartbeats 1000000 in
theorem new_form (s : ByteArray) (room : Int) (w : World) (hs : s.size ≤ 140737488351232) (hT : Tabs w) (h0 : 0 ≤ room) (h1 : room ≤ 1100) (hbad : rowB s.data.toList = false) (hlen : (Utf.runes s.data.toList).length ≤ 1000000) :
    Calls Tryd.prog 6 #[.int .i64 room, .string s] w fun e w' => e = .returned (.tuple #[.pointer none, .int .i64 1]) ∧ Kept (fun _ => False) w w' := by
  have cV := valid_any s w (by omega) hT
  have b0 : decide (room < 0) = false := by simp; omega
  have b1 : decide (1100 < room) = false := by simp; omega
  cases hv : Lib.validD s.data.toList with
  | false =>
    rw [hv] at cV
    clear hbad hv
    go_enter Tryd.func6, Tryd.ntmps6
    go_wp2_with (go_at_call 24; refine cV.mono ?_; rintro e w1 ⟨rfl, hk1⟩)
    go_ret2
    exact ⟨rfl, hk1⟩
  | true =>
    rw [hv] at cV
    have HB : Hid (¬ ∀ r ∈ Utf.runes s.data.toList, May r) := fun hm => by rw [may_rowB hv hm] at hbad; cases hbad
    have HL := Lib.hid hlen
    clear hbad hv hlen
    generalize hR : Utf.runes s.data.toList = R at HB HL ⊢
    have HR := Lib.hid hR
    clear hR
    go_enter Tryd.func6, Tryd.ntmps6
    go_wp2_with (go_at_call 24; refine cV.mono ?_; rintro e w1 ⟨rfl, hk1⟩)
    clear cV
    have HK1 := Lib.hid hk1
    clear hk1
    go_loopw [6] (fun v wr => RangeRel w1 s R v wr) (fun _ wr => s.size - wr.iterPos w1.heap.size)
    case atStart => exact ⟨0, [], rfl, rfl, by rw [List.drop_zero, HR.out]; rfl, fun r hr => by cases hr⟩
    case round =>
      obtain ⟨pos, pre, rfl, rfl, hpre, hm⟩ := hrel
      have HP := Lib.hid hpre
      have HMP := Lib.hid hm
      clear hpre hm
      have hpl : pre.length ≤ 1000000 := by have := congrArg List.length HP.out; rw [List.length_append] at this; have := HL.out; omega
      by_cases hp : pos < s.size
      · have hnx : ∀ ty, (Instr.next (.pointer (some ⟨w1.heap.size, 0, none⟩)) true ty).run Tryd.prog (w1.iter s pos) = _ := fun ty => run_next_any w1 s pos ty hp
        have hwd := Lib.decode_width_pos s pos hp
        have hrune := Lib.rune_le s pos
        have HRA := Lib.hid (rune_at s pos hp)
        by_cases hmay : May ((Utf8.decode s pos).1 : Int)
        · go_wp2_with (go_at_call 25; refine (may_yes _ hmay _).mono ?_; rintro e w' ⟨rfl, rfl⟩)
          go_roundw
          case rel =>
            refine ⟨pos + (Utf8.decode s pos).2, pre ++ [((Utf8.decode s pos).1 : Int)], rfl, by simp, by rw [HP.out, HRA.out]; simp, fun r hr => ?_⟩
            rcases List.mem_append.1 hr with h | h
            · exact HMP.out r h
            · simp at h
              subst h
              exact hmay
          case measure =>
            simp
            omega
        · go_wp2_with (go_at_call 25; refine (may_no _ hmay _).mono ?_; rintro e w' ⟨rfl, rfl⟩)
          go_ret2
          exact ⟨rfl, HK1.out.trans ((Kept.refl (fun _ => False) w1).alloc (.stringIter s _))⟩
      · exfalso
        have he := rune_end s pos hp
        apply HB.out
        intro r hr
        rw [HP.out, he, List.append_nil] at hr
        exact HMP.out r hr

set_option maxHeartbeats 1000000 in
theorem new_full (s : ByteArray) (room : Nat) (w : World) (hs : s.size ≤ 140737488351232) (hT : Tabs w) (h1 : room ≤ 1100) (hgood : rowB s.data.toList = true) (hlen : (Utf.runes s.data.toList).length ≤ 1000000) (hfull : room < (Utf.runes s.data.toList).length) :
    Calls Tryd.prog 6 #[.int .i64 room, .string s] w fun e w' => e = .returned (.tuple #[.pointer none, .int .i64 4]) ∧ Kept (fun _ => False) w w' := by
  have cV := valid_any s w (by omega) hT
  obtain ⟨hv, hmay0⟩ := rowB_may hgood
  rw [hv] at cV
  have HM := Lib.hid hmay0
  have HL := Lib.hid hlen
  have HF := Lib.hid hfull
  have b0 : decide ((room : Int) < 0) = false := by simp
  have b1 : decide ((1100 : Int) < (room : Int)) = false := by simp; omega
  clear hgood hv hmay0 hlen hfull
  generalize hR : Utf.runes s.data.toList = R at HM HL HF ⊢
  have HR := Lib.hid hR
  clear hR
  go_enter Tryd.func6, Tryd.ntmps6
  go_wp2_with (go_at_call 24; refine cV.mono ?_; rintro e w1 ⟨rfl, hk1⟩)
  clear cV
  have HK1 := Lib.hid hk1
  clear hk1
  go_loopw [6] (fun v wr => RangeRel w1 s R v wr) (fun _ wr => s.size - wr.iterPos w1.heap.size)
  case atStart => exact ⟨0, [], rfl, rfl, by rw [List.drop_zero, HR.out]; rfl, fun r hr => by cases hr⟩
  case round =>
    obtain ⟨pos, pre, rfl, rfl, hpre, hm⟩ := hrel
    have HP := Lib.hid hpre
    have HMP := Lib.hid hm
    clear hpre hm
    have hpl : pre.length ≤ 1000000 := by have := congrArg List.length HP.out; rw [List.length_append] at this; have := HL.out; omega
    by_cases hp : pos < s.size
    · have hnx : ∀ ty, (Instr.next (.pointer (some ⟨w1.heap.size, 0, none⟩)) true ty).run Tryd.prog (w1.iter s pos) = _ := fun ty => run_next_any w1 s pos ty hp
      have hwd := Lib.decode_width_pos s pos hp
      have hrune := Lib.rune_le s pos
      have hr := rune_at s pos hp
      have hmay : May ((Utf8.decode s pos).1 : Int) := HM.out _ (by rw [HP.out, hr]; simp)
      have HRA := Lib.hid hr
      clear hr
      go_wp2_with (go_at_call 25; refine (may_yes _ hmay _).mono ?_; rintro e w' ⟨rfl, rfl⟩)
      go_roundw
      case rel =>
        refine ⟨pos + (Utf8.decode s pos).2, pre ++ [((Utf8.decode s pos).1 : Int)], rfl, by simp, by rw [HP.out, HRA.out]; simp, fun r hr => ?_⟩
        rcases List.mem_append.1 hr with h | h
        · exact HMP.out r h
        · simp at h
          subst h
          exact hmay
      case measure =>
        simp
        omega
    · have hnx : ∀ ty, (Instr.next (.pointer (some ⟨w1.heap.size, 0, none⟩)) true ty).run Tryd.prog (w1.iter s pos) = _ := fun ty => run_next_end w1 s pos ty hp
      have he := rune_end s pos hp
      have hlen : room < pre.length := by have := HF.out; rw [HP.out, he] at this; simpa using this
      have b2 : decide (room < pre.length) = true := by simp; omega
      clear he
      go_wp2
      go_ret2
      exact ⟨rfl, HK1.out.trans ((Kept.refl (fun _ => False) w1).alloc (.stringIter s _))⟩
end Go.Proofs.YthhlchgnjdfpeaaDoor
