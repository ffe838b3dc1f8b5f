/-
  ELEMENTS: the text of two.
-/
import Derived.Test.YtlminkbaafjloaaDoorOdS
set_option linter.unusedVariables false
namespace Go.Proofs.YtlminkbaafjloaaDoor
open Go Go.RowKit

theorem se_two {w : World} {g : Nat} (h : w.heap[g]? = some (.cells #[.int .i64 1, .int .i64 2, .int .i64 98, .bool false, .int .i64 1, .int .i64 1, .int .i64 97, .bool false] 56 (0, 0))) : Se w (.slice (some ⟨g, 0, none⟩) 2 2) [⟨1, 2, 98, false⟩, ⟨1, 1, 97, false⟩] := by
  refine ⟨_, 2, 2, rfl, ⟨rfl, fun k x hx => ?_⟩, Nat.le_refl _, fun h => by cases h⟩
  match k, hx with
  | 0, hx =>
    simp only [List.getElem?_cons_zero, Option.some.injEq] at hx
    subst hx
    refine ⟨_, rfl, ?_⟩
    rw [addr_add]
    exact ⟨cell_of_row _ _ _ _ _ _ h, cell_of_row _ _ _ _ _ _ h, cell_of_row _ _ _ _ _ _ h, cell_of_row _ _ _ _ _ _ h⟩
  | 1, hx =>
    simp only [List.getElem?_cons_succ, List.getElem?_cons_zero, Option.some.injEq] at hx
    subst hx
    refine ⟨_, rfl, ?_⟩
    rw [addr_add]
    exact ⟨cell_of_row _ _ _ _ _ _ h, cell_of_row _ _ _ _ _ _ h, cell_of_row _ _ _ _ _ _ h, cell_of_row _ _ _ _ _ _ h⟩
theorem few_two : Few [⟨1, 2, 98, false⟩, ⟨1, 1, 97, false⟩] (fun k => if k = 0 then 0 else if k = 1 then 128 else 192) := by
  refine ⟨rfl, by decide, fun k e h => ?_⟩
  match k, h with
  | 0, h =>
    simp only [List.getElem?_cons_zero, Option.some.injEq] at h
    subst h
    exact ⟨rfl, .inr (.inl ⟨rfl, rfl, rfl⟩), by decide⟩
  | 1, h =>
    simp only [List.getElem?_cons_succ, List.getElem?_cons_zero, Option.some.injEq] at h
    subst h
    exact ⟨rfl, .inr (.inr ⟨rfl, rfl, rfl⟩), by decide⟩
theorem few_one : Few [⟨1, 1, 97, false⟩] (fun k => if k = 0 then 0 else 64) := by
  refine ⟨rfl, by decide, fun k e h => ?_⟩
  match k, h with
  | 0, h =>
    simp only [List.getElem?_cons_zero, Option.some.injEq] at h
    subst h
    exact ⟨rfl, .inl ⟨rfl, rfl, rfl⟩, by decide⟩
theorem few_nil : Few [] (fun _ => 0) := ⟨rfl, by decide, fun k e h => by cases h⟩
theorem Kept.blw {w w' w'' : World} {b : Nat} (h : Kept (fun _ => False) w w') (hb : Below b w' w'') (hB : w.heap.size ≤ b) : Kept (fun _ => False) w w'' :=
  ⟨hb.os.trans h.os, hb.tape.trans h.tape, hb.output.trans h.output, Nat.le_trans h.size hb.size, fun k hk hn => (hb.block k (Nat.lt_of_lt_of_le hk hB)).trans (h.block k hk hn)⟩
def bsK : Nat → List UInt8
  | 0 => []
  | 1 => [98]
  | _ => [98, 97]
theorem bs_one : Lib.byteCells (bsK 0) ++ Lib.runeCells 98 = Lib.byteCells (bsK 1) := by
  rw [show Lib.runeCells 98 = [.int .u8 98] by simp [Lib.runeCells, Lib.encodeRuneZ_one]]; rfl
theorem bs_two : Lib.byteCells (bsK 1) ++ Lib.runeCells 97 = Lib.byteCells (bsK 2) := by
  rw [show Lib.runeCells 97 = [.int .u8 97] by simp [Lib.runeCells, Lib.encodeRuneZ_one]]; rfl
theorem bld_new (w : World) : Lib.IsBuilderF 88 5 w.heap.size w.heap.size (Lib.byteCells (bsK 0)) (w.alloc (.cells #[.pointer none, .slice none 0 0] 88)) :=
  .inl ⟨Nat.le_refl _, .slice none 0 0, heap_alloc_new w _, World.ownsRowF_of (World.ownsRow_nil _ _ _ _), by simp [Value.ownBlock]⟩
theorem bld_drew {b : Nat} {l : List Value} {w : World} (h : Lib.IsBuilderF 88 5 b b l w) : Lib.IsBuilderF 88 5 b b l w.drew := h.elim (fun x => .inl x.drew) (fun x => .inr x.drew)
set_option maxRecDepth 100000 in
set_option maxHeartbeats 16000000 in
theorem text_two (g : Nat) (w : World) (hg : w.heap[g]? = some (.cells #[.int .i64 1, .int .i64 2, .int .i64 98, .bool false, .int .i64 1, .int .i64 1, .int .i64 97, .bool false] 56 (0, 0))) (hT : Tabs w) :
    Calls Tryd.prog 27 #[.slice (some ⟨g, 0, none⟩) 2 2] w fun e w' => e = .returned (.tuple #[.string ⟨#[98, 97]⟩, .int .i64 0]) ∧ Kept (fun _ => False) w w' := by
  have hk0 : Kept (fun _ => False) w (w.alloc (.cells #[.pointer none, .slice none 0 0] 88)) := (Kept.refl _ w).alloc _
  have cC := check_few _ _ _ w (se_two hg) few_two hT
  have HG := Lib.hid hg
  clear hg hT hk0
  go_enter Tryd.func27, Tryd.ntmps27
  go_upto_region 3 with (go_at_call 37; refine cC.mono ?_; clear cC; rintro ee w2 ⟨rfl, hk2⟩; have HKZ := Lib.hid hk2; clear hk2)
  have HB : Hid (w.heap.size ≤ w2.heap.size) := HKZ.out.size
  have HI0 := Lib.hid (bld_new w2)
  have HKA : Hid (Kept (fun _ => False) w (w2.alloc (.cells #[.pointer none, .slice none 0 0] 88))) := HKZ.out.alloc _
  clear HKZ
  generalize w2.alloc (.cells #[.pointer none, .slice none 0 0] 88) = w3 at *
  generalize w2.heap.size = b at *
  go_loopw [15] (fun v wr => ∃ k : Nat, k ≤ 2 ∧ v = .int .i64 k ∧ Lib.IsBuilderF 88 5 b b (Lib.byteCells (bsK k)) wr ∧ Kept (fun _ => False) w wr) (fun v _ => 2 - (intOf v).toNat)
  case atStart => exact ⟨0, Nat.zero_le _, rfl, HI0.out, HKA.out⟩
  case round =>
    obtain ⟨k, hk, rfl, hid, hkept⟩ := hrel
    have HK := Lib.hid hkept
    have HID := Lib.hid hid
    have hg' := hkept.cellsAtE HG.out id
    have HBW : Hid (b ≤ wr.heap.size) := hid.elim (fun x => Nat.le_of_lt x.lt) (fun x => Nat.le_of_lt x.lt)
    clear hkept hid
    rcases (show k = 0 ∨ k = 1 ∨ k = 2 by omega) with rfl | rfl | rfl
    · have l0 : wr.cell? ⟨g, 0, none⟩ = some (.int .i64 1) := cell_of_row _ _ _ _ _ _ hg'
      have l1 : wr.cell? ⟨g, 1, none⟩ = some (.int .i64 2) := cell_of_row _ _ _ _ _ _ hg'
      have l2 : wr.cell? ⟨g, 2, none⟩ = some (.int .i64 98) := cell_of_row _ _ _ _ _ _ hg'
      have l3 : wr.cell? ⟨g, 3, none⟩ = some (.bool false) := cell_of_row _ _ _ _ _ _ hg'
      clear hg'
      go_upto_region 8 with fail
      have hr := heap_alloc_new wr (.cells #[.int .i64 1, .int .i64 2, .int .i64 98, .bool false] 56)
      have HIA := Lib.hid (HID.out.alloc (.cells #[.int .i64 1, .int .i64 2, .int .i64 98, .bool false] 56))
      have HKB : Hid (Kept (fun _ => False) w (wr.alloc (.cells #[.int .i64 1, .int .i64 2, .int .i64 98, .bool false] 56))) := HK.out.alloc _
      have HBX : Hid (b ≤ (wr.alloc (.cells #[.int .i64 1, .int .i64 2, .int .i64 98, .bool false] 56)).heap.size) := HIA.out.elim (fun x => Nat.le_of_lt x.lt) (fun x => Nat.le_of_lt x.lt)
      clear l0 l1 l2 l3
      generalize wr.alloc (.cells #[.int .i64 1, .int .i64 2, .int .i64 98, .bool false] 56) = w5 at *
      generalize wr.heap.size = q at *
      have x2 : w5.cell? ⟨q, 2, none⟩ = some (.int .i64 98) := cell_of_row _ _ _ _ _ _ hr
      have x3 : w5.cell? ⟨q, 3, none⟩ = some (.bool false) := cell_of_row _ _ _ _ _ _ hr
      clear hr
      have cW := write_rune b b _ 98 (by decide) (by decide) w5 HIA.out (by simp [bsK, Lib.byteCells]) HBX.out
      go_wp2_with (go_at_call 47; refine cW.mono ?_; clear cW x2 x3; rintro ee w6 ⟨rfl, hi6, hb6, _⟩; have HI6 : Hid (Lib.IsBuilderF 88 5 b b (Lib.byteCells (bsK 1)) w6) := .inr (by rw [← bs_one]; exact hi6); have HK6 := Lib.hid (HKB.out.blw hb6 HB.out); clear hi6 hb6)
      go_roundw
      case rel => exact ⟨1, by omega, by go_num, HI6.out, HK6.out⟩
      case measure => simp [intOf] <;> omega
    · have l0 : wr.cell? ⟨g, 4, none⟩ = some (.int .i64 1) := cell_of_row _ _ _ _ _ _ hg'
      have l1 : wr.cell? ⟨g, 5, none⟩ = some (.int .i64 1) := cell_of_row _ _ _ _ _ _ hg'
      have l2 : wr.cell? ⟨g, 6, none⟩ = some (.int .i64 97) := cell_of_row _ _ _ _ _ _ hg'
      have l3 : wr.cell? ⟨g, 7, none⟩ = some (.bool false) := cell_of_row _ _ _ _ _ _ hg'
      clear hg'
      go_upto_region 8 with fail
      have hr := heap_alloc_new wr (.cells #[.int .i64 1, .int .i64 1, .int .i64 97, .bool false] 56)
      have HIA := Lib.hid (HID.out.alloc (.cells #[.int .i64 1, .int .i64 1, .int .i64 97, .bool false] 56))
      have HKB : Hid (Kept (fun _ => False) w (wr.alloc (.cells #[.int .i64 1, .int .i64 1, .int .i64 97, .bool false] 56))) := HK.out.alloc _
      have HBX : Hid (b ≤ (wr.alloc (.cells #[.int .i64 1, .int .i64 1, .int .i64 97, .bool false] 56)).heap.size) := HIA.out.elim (fun x => Nat.le_of_lt x.lt) (fun x => Nat.le_of_lt x.lt)
      clear l0 l1 l2 l3
      generalize wr.alloc (.cells #[.int .i64 1, .int .i64 1, .int .i64 97, .bool false] 56) = w5 at *
      generalize wr.heap.size = q at *
      have x2 : w5.cell? ⟨q, 2, none⟩ = some (.int .i64 97) := cell_of_row _ _ _ _ _ _ hr
      have x3 : w5.cell? ⟨q, 3, none⟩ = some (.bool false) := cell_of_row _ _ _ _ _ _ hr
      clear hr
      have cW := write_rune b b _ 97 (by decide) (by decide) w5 HIA.out (by simp [bsK, Lib.byteCells]) HBX.out
      go_wp2_with (go_at_call 47; refine cW.mono ?_; clear cW x2 x3; rintro ee w6 ⟨rfl, hi6, hb6, _⟩; have HI6 : Hid (Lib.IsBuilderF 88 5 b b (Lib.byteCells (bsK 2)) w6) := .inr (by rw [← bs_two]; exact hi6); have HK6 := Lib.hid (HKB.out.blw hb6 HB.out); clear hi6 hb6)
      go_roundw
      case rel => exact ⟨2, by omega, by go_num, HI6.out, HK6.out⟩
      case measure => simp [intOf] <;> omega
    · clear hg'
      have cS := build_str b b (bsK 2) wr HID.out HBW.out
      go_wp2_with (go_at_call 48; refine cS.mono ?_; clear cS; rintro ee w6 ⟨rfl, _, hb6, _⟩; have HK6 := Lib.hid (HK.out.blw hb6 HB.out); clear hb6)
      go_ret2
      exact ⟨rfl, HK6.out⟩
end Go.Proofs.YtlminkbaafjloaaDoor
