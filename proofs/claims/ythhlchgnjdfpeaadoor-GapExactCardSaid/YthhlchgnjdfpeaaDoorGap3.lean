/-
  THE GAP BUFFER: the gap is made wide enough.
-/
import Derived.Test.YthhlchgnjdfpeaaDoorGap2
import Derived.OwnWalk
import Derived.Lib.MinMax
set_option linter.unusedVariables false
namespace Go.Proofs.YthhlchgnjdfpeaaDoor
open Go Go.RowKit

/-- The block of a gap buffer. -/
def RB (w : World) (rb : Nat) (room : Int) (cb n c low : Nat) (high moves : Int) : Prop :=
  w.heap[rb]? = some (.cells #[.int .i64 room, .slice (some ⟨cb, 0, none⟩) n c, .int .i64 low, .int .i64 high, .int .i64 moves] 57 (0, 0))
/-- The block of its cells. -/
def CB (w : World) (cb : Nat) (zs : List Int) : Prop := w.heap[cb]? = some (.cells (zs.map (Value.int .i32)).toArray 21 (0, 0))
section
variable {w : World} {rb cb n c low : Nat} {room high moves : Int} {zs : List Int}
theorem RB.c0 (h : RB w rb room cb n c low high moves) : w.cell? ⟨rb, 0, none⟩ = some (.int .i64 room) := by rw [cell_of_row w rb 0 _ _ _ h]; rfl
theorem RB.c1 (h : RB w rb room cb n c low high moves) : w.cell? ⟨rb, 1, none⟩ = some (.slice (some ⟨cb, 0, none⟩) n c) := by rw [cell_of_row w rb 1 _ _ _ h]; rfl
theorem RB.c2 (h : RB w rb room cb n c low high moves) : w.cell? ⟨rb, 2, none⟩ = some (.int .i64 low) := by rw [cell_of_row w rb 2 _ _ _ h]; rfl
theorem RB.c3 (h : RB w rb room cb n c low high moves) : w.cell? ⟨rb, 3, none⟩ = some (.int .i64 high) := by rw [cell_of_row w rb 3 _ _ _ h]; rfl
theorem RB.c4 (h : RB w rb room cb n c low high moves) : w.cell? ⟨rb, 4, none⟩ = some (.int .i64 moves) := by rw [cell_of_row w rb 4 _ _ _ h]; rfl
theorem RB.fr (h : RB w rb room cb n c low high moves) (i : Nat) : w.frozen? ⟨rb, i, none⟩ = false := frozen_of h
theorem RB.drewN (h : RB w rb room cb n c low high moves) (k : Nat) : RB (w.drewN k) rb room cb n c low high moves := h
theorem CB.drewN (h : CB w cb zs) (k : Nat) : CB (w.drewN k) cb zs := h
theorem RB.kept {S : Nat → Prop} {w' : World} (h : RB w rb room cb n c low high moves) (hk : Kept S w w') (hs : ¬ S rb) : RB w' rb room cb n c low high moves := (hk.block rb (heap_lt h) hs).trans h
theorem CB.kept {S : Nat → Prop} {w' : World} (h : CB w cb zs) (hk : Kept S w w') (hs : ¬ S cb) : CB w' cb zs := (hk.block cb (heap_lt h) hs).trans h
theorem Kept.grown {S : Nat → Prop} {a b c : World} (h : Kept S a b) (hg : b.grownBy c none) : Kept S a c :=
  h.trans ⟨hg.os, hg.tape, hg.output, hg.size, fun k hk _ => hg.block k hk (by simp)⟩
theorem CB.cell (h : CB w cb zs) {j : Nat} {z : Int} (hz : zs[j]? = some z) : w.cell? ⟨cb, j, none⟩ = some (.int .i32 z) := by
  rw [cell_of_row w cb j _ _ _ h]
  simp [hz]
theorem CB.of_own {g base m : Nat} (h : w.ownsRow base 21 1 (.slice (some ⟨g, 0, none⟩) m m) m (List.replicate m (.int .i32 0))) : CB w g (List.replicate m 0) := by
  rcases h.2 with ⟨h1, _⟩ | ⟨g', cap, cur, hv, _, hh, _, _, hs, ht⟩
  · cases h1
  · injection hv with e1 e2 e3
    injection e1 with e1
    injection e1 with e1
    subst e1 e3
    unfold CB
    rw [hh]
    rw [Nat.mul_one] at hs ht
    have : cur.toList = List.replicate m (.int .i32 0) := by rw [← ht, List.take_of_length_le (by simp; omega)]
    have e : cur = (List.replicate m (Value.int .i32 0)).toArray := by rw [← this]
    rw [e]
    simp
theorem RB.ne (h : RB w rb room cb n c low high moves) (h' : CB w cb zs) : rb ≠ cb := block_ne h h' (by decide)
end

theorem run_cut_h (w : World) (cb n c hi : Nat) (H : Int) (hH : H = hi) (h2 : hi ≤ c) :
    (Instr.slice 34 (.slice (some ⟨cb, 0, none⟩) n c) none (some (.int .i64 H)) none).run Tryd.prog w = .ok (.slice (cutA (some ⟨cb, 0, none⟩) c 0) hi c) w := by
  subst hH
  rw [run_slice_h (P := Tryd.prog) w 34 _ n c Tryd.underlying34 .i64 _ (by omega) (by omega)]
  have hz : ((sizeOf (Tryd.prog.elem 34)).run Tryd.prog w) = .ok 1 w := by kernel_rfl
  rw [hz]
  simp [Result.andThen, sliced, cutA]
theorem run_cut_l (w : World) (cb n c lo : Nat) (L : Int) (hL : L = lo) (h2 : lo ≤ n) :
    (Instr.slice 34 (.slice (some ⟨cb, 0, none⟩) n c) (some (.int .i64 L)) none none).run Tryd.prog w = .ok (.slice (cutA (some ⟨cb, 0, none⟩) c lo) (n - lo) (c - lo)) w := by
  subst hL
  rw [run_slice_l (P := Tryd.prog) w 34 _ n c Tryd.underlying34 .i64 _ (by omega) (by omega)]
  have hz : ((sizeOf (Tryd.prog.elem 34)).run Tryd.prog w) = .ok 1 w := by kernel_rfl
  rw [hz]
  simp [Result.andThen, sliced, cutA]
theorem infoRune : (Tryd.prog.info? 21).map (fun i => (i.zero, i.size, i.bytes)) = some (some (.int .i32 0), 1, 4) := by kernel_rfl
set_option maxHeartbeats 400000 in
theorem widen_yes (rb cb n c low high k : Nat) (room moves : Int) (w : World) (zs : List Int) (hr : RB w rb room cb n c low high moves) (hb : CB w cb zs)
    (hl : low ≤ high) (hh : high ≤ n) (hn : n ≤ 100000) (hc : n ≤ c) (hz : c = zs.length) (hk : (high : Int) - low < k) (hk2 : (k : Int) + (n - (high - low)) ≤ room) (hroom : room ≤ 10000) (wide : Nat)
    (hw : (wide : Int) = max (k : Int) (min (2 * ((n : Int) - ((high : Int) - low))) (room - ((n : Int) - ((high : Int) - low))))) :
    Calls Tryd.prog 31 #[.pointer (some ⟨rb, 0, none⟩), .int .i64 k] w fun e w' => e = .returned (.tuple #[]) ∧ Kept (fun j => j = rb) w w' ∧ ∃ cb', w.heap.size ≤ cb' ∧
      RB w' rb room cb' (n - (high - low) + wide) (n - (high - low) + wide) low ((low : Int) + wide) moves ∧
      CB w' cb' (splice (splice (List.replicate (n - (high - low) + wide) 0) 0 (zs.take low)) (low + wide) ((zs.take n).drop high)) := by
  have c0 := hr.c0
  have c1 := hr.c1
  have c2 := hr.c2
  have c3 := hr.c3
  obtain ⟨i0, hi, hz0, hz1, hz2⟩ := info_parts infoRune
  have HR := Lib.hid hr
  have HB := Lib.hid hb
  have HZ := Lib.hid hz
  have HW := Lib.hid hw
  clear hr hb hz hw
  have hbool : decide ((k : Int) ≤ (high : Int) - (low : Int)) = false := by simp; omega
  have x1 : IntKind.i64.wrap ((high : Int) - (low : Int)) = (high : Int) - (low : Int) := IntWalk.i64_in _ (by omega)
  go_enter Tryd.func31, Tryd.ntmps31
  go_wp2
  go_quiet (fail)
  go_wp2
  have HR2 : Hid (RB (w.drewN nq) rb room cb n c low high moves) := HR.out
  have HB2 : Hid (CB (w.drewN nq) cb zs) := HB.out
  have HK2 : Kept (fun j => j = rb) w (w.drewN nq) := (Kept.refl _ _).drewN _
  clear c0 c1 c2 c3 HR HB
  generalize w.drewN nq = w2 at HR2 HB2 HK2 ⊢
  have c0 := HR2.out.c0
  have c1 := HR2.out.c1
  have c2 := HR2.out.c2
  have c3 := HR2.out.c3
  have x2 : IntKind.i64.wrap (2 * ((n : Int) - ((high : Int) - (low : Int)))) = 2 * ((n : Int) - ((high : Int) - (low : Int))) := IntWalk.i64_in _ (by omega)
  have x3 : IntKind.i64.wrap (room - ((n : Int) - ((high : Int) - (low : Int)))) = room - ((n : Int) - ((high : Int) - (low : Int))) := IntWalk.i64_in _ (by omega)
  go_quiet ((go_at_call 20; exact Calls.quiet_of (len_any rb _ n c low high _ (HR2.out.drewN _).c1 (HR2.out.drewN _).c2 (HR2.out.drewN _).c3 hl hh hn)))
  go_wp2_with fail
  rw [← HW.out]
  have HR3 : Hid (RB (w2.drewN nq) rb room cb n c low high moves) := HR2.out
  have HB3 : Hid (CB (w2.drewN nq) cb zs) := HB2.out
  have HK3 : Kept (fun j => j = rb) w (w2.drewN nq) := HK2.drewN _
  clear c0 c1 c2 c3 HR2 HB2 HK2 x2 x3
  generalize w2.drewN nq = w3 at HR3 HB3 HK3 ⊢
  refine (len_any rb _ n c low high _ HR3.out.c1 HR3.out.c2 HR3.out.c3 hl hh hn).mono ?_
  rintro e w' ⟨rfl, q, rfl⟩
  have HR4 : Hid (RB (w3.drewN q) rb room cb n c low high moves) := HR3.out
  have HB4 : Hid (CB (w3.drewN q) cb zs) := HB3.out
  have HK4 : Kept (fun j => j = rb) w (w3.drewN q) := HK3.drewN _
  clear HR3 HB3 HK3
  generalize w3.drewN q = w4 at HR4 HB4 HK4 ⊢
  have hwide : wide ≤ 10000 := by have := HW.out; omega
  go_wp2_with (at_make; refine wpList_make_full _ rfl _ _ 34 rfl 0 21 i0 (.int .i32 0) 1 Tryd.underlying34 hi hz0 hz1 .i64 .i64 _ _ (n - (high - low) + wide) rfl rfl (by omega) (by omega) (by rw [hz2]; omega) (by unfold maxLen; omega) (Nat.zero_le _) ?_; intro w5 hown hgrow)
  have HR5 : Hid (RB w5 rb room cb n c low high moves) := HR4.out.kept ((Kept.refl (fun _ => False) w4).grown hgrow) (fun h => h)
  have HB5 : Hid (CB w5 cb zs) := HB4.out.kept ((Kept.refl (fun _ => False) w4).grown hgrow) (fun h => h)
  have HK5 : Kept (fun j => j = rb) w w5 := HK4.grown hgrow
  rw [show (Value.int .i32 0).cells = #[Value.int .i32 0] from rfl, toList_madeCells_one, Nat.mul_one] at hown
  have HN5 : Hid (CB w5 w4.heap.size (List.replicate (n - (high - low) + wide) 0)) := CB.of_own hown
  have hs0 : w.heap.size ≤ w4.heap.size := HK4.size
  have hs1 : rb < w4.heap.size := heap_lt HR4.out
  have hs2 : cb < w4.heap.size := heap_lt HB4.out
  clear hown hgrow HR4 HB4 HK4
  generalize w4.heap.size = nb at HN5 hs0 hs1 hs2 ⊢
  have e1 := fun w' => run_cut_h w' cb n c low low rfl (by omega)
  have e2 := fun w' => run_cut_l w' nb (n - (high - low) + wide) (n - (high - low) + wide) (low + wide) ((low : Int) + wide) (by omega) (by omega)
  have e3 := fun w' => run_cut_l w' cb n c high high rfl (by omega)
  have HA1 : Hid (0 < low → cutA (some ⟨cb, 0, none⟩) c 0 = some ⟨cb, 0, none⟩) := fun h => cutA_lt (by omega)
  have HA2 : Hid (high < n → cutA (some ⟨nb, 0, none⟩) (n - (high - low) + wide) (low + wide) = some ⟨nb, low + wide, none⟩) := fun h => cutA_lt (by omega)
  have HA3 : Hid (high < n → cutA (some ⟨cb, 0, none⟩) c high = some ⟨cb, high, none⟩) := fun h => cutA_lt (by omega)
  generalize cutA (some ⟨cb, 0, none⟩) c 0 = A1 at e1 HA1
  generalize cutA (some ⟨nb, 0, none⟩) (n - (high - low) + wide) (low + wide) = A2 at e2 HA2
  generalize cutA (some ⟨cb, 0, none⟩) c high = A3 at e3 HA3
  refine wp_region_still_tail 10 (by kernel_rfl) (by kernel_rfl) ?_
  simp only [List.take_succ_cons, List.take_zero, List.drop_succ_cons, List.drop_zero]
  have d1 : w5.drew.cell? ⟨rb, 1, none⟩ = some (.slice (some ⟨cb, 0, none⟩) n c) := HR5.out.c1
  have d2 : w5.drew.cell? ⟨rb, 2, none⟩ = some (.int .i64 low) := HR5.out.c2
  have HR6 : Hid (RB w5.drew rb room cb n c low high moves) := HR5.out
  have HB6 : Hid (CB w5.drew cb zs) := HB5.out
  have HN6 : Hid (CB w5.drew nb (List.replicate (n - (high - low) + wide) 0)) := HN5.out
  have HK6 : Kept (fun j => j = rb) w w5.drew := HK5.drew
  clear HR5 HB5 HN5 HK5
  change wpStill _ _ w5.drew _ _ _
  generalize hw6 : w5.drew = w6 at d1 d2 HR6 HB6 HN6 HK6 ⊢
  repeat still_step
  refine wpStill_nil ?_
  change wpList _ _ _ _ _ w5.drew
  rw [hw6]
  clear hw6 d1 d2
  refine wpList_copy_row rfl _ _ _ _ rfl 21 Tryd.underlying34 (by kernel_rfl) _ _ _ _ _ _ rfl rfl nb 0 ((List.replicate (n - (high - low) + wide) 0).map (Value.int .i32)) 21 HN6.out ((zs.take low).map (Value.int .i32)) (by have := HZ.out; simp only [List.length_map, List.length_take]; show _ = min _ _; omega) ?hp (by have := HZ.out; simp only [List.length_map, List.length_take, List.length_replicate]; omega) (by intro v hv; simp only [List.mem_map] at hv; obtain ⟨z, _, rfl⟩ := hv; rfl) ?_
  case hp =>
    intro h0
    have hlt : 0 < low := by simp only [List.length_map, List.length_take] at h0; omega
    refine ⟨rfl, _, HA1.out hlt, fun j v hj => ?_⟩
    rw [addr_add, cell_of_row w6 cb (0 + j) _ _ _ HB6.out]
    have hz := HZ.out
    simp only [List.getElem?_map, List.getElem?_take] at hj
    split at hj
    · simpa using hj
    · simp at hj
  intro w7 hw7
  have k0 : Kept (fun j => j = nb) w6 w7 := by rw [hw7.out]; exact Kept.setRow (S := fun j => j = nb) (Kept.refl _ _) rfl _
  have HR7 : Hid (RB w7 rb room cb n c low high moves) := HR6.out.kept k0 (by omega)
  have HB7 : Hid (CB w7 cb zs) := HB6.out.kept k0 (by omega)
  have HN7 : Hid (CB w7 nb (splice (List.replicate (n - (high - low) + wide) 0) 0 (zs.take low))) := by
    have h : w7.heap[nb]? = _ := (congrArg (fun x : World => x.heap[nb]?) hw7.out).trans (setRow_heap _ _ _ _ _ _ HN6.out)
    rw [splice_map] at h
    exact h
  have HK7 : Kept (fun j => j = rb) w w7 := by
    have := (HK6.mono (T := fun j => j = rb ∨ j = nb) (fun _ _ h => .inl h)).trans (k0.mono (fun _ _ h => .inr h))
    exact ⟨this.os, this.tape, this.output, this.size, fun j hj hn => this.block j hj (by rintro (h | h); exact hn h; omega)⟩
  clear k0 hw7 HR6 HB6 HN6 HK6
  generalize hz7 : splice (List.replicate (n - (high - low) + wide) 0) 0 (zs.take low) = zs7 at HN7 ⊢
  have HL7 : Hid (zs7.length = n - (high - low) + wide) := by
    show zs7.length = _
    have h := length_splice (List.replicate (n - (high - low) + wide) (0 : Int)) 0 (zs.take low) (by have := HZ.out; simp only [List.length_take, List.length_replicate]; omega)
    rw [hz7, List.length_replicate] at h
    exact h
  have HE7 : Hid (zs7 = splice (List.replicate (n - (high - low) + wide) 0) 0 (zs.take low)) := hz7.symm
  clear hz7
  have x4 : IntKind.i64.wrap ((low : Int) + (wide : Int)) = (low : Int) + (wide : Int) := IntWalk.i64_in _ (by omega)
  go_wp2
  refine wp_region_still_tail 17 (by kernel_rfl) (by kernel_rfl) ?_
  simp only [List.take_succ_cons, List.take_zero, List.drop_succ_cons, List.drop_zero]
  have d1 : w7.drew.cell? ⟨rb, 1, none⟩ = some (.slice (some ⟨cb, 0, none⟩) n c) := HR7.out.c1
  have d2 : w7.drew.cell? ⟨rb, 2, none⟩ = some (.int .i64 low) := HR7.out.c2
  have d3 : w7.drew.cell? ⟨rb, 3, none⟩ = some (.int .i64 high) := HR7.out.c3
  have HR8 : Hid (RB w7.drew rb room cb n c low high moves) := HR7.out
  have HB8 : Hid (CB w7.drew cb zs) := HB7.out
  have HN8 : Hid (CB w7.drew nb zs7) := HN7.out
  have HK8 : Kept (fun j => j = rb) w w7.drew := HK7.drew
  clear HR7 HB7 HN7 HK7
  change wpStill _ _ w7.drew _ _ _
  generalize hw8 : w7.drew = w8 at d1 d2 d3 HR8 HB8 HN8 HK8 ⊢
  repeat still_step
  refine wpStill_nil ?_
  change wpList _ _ _ _ _ w7.drew
  rw [hw8]
  clear hw8 d1 d2 d3
  refine wpList_copy_row rfl _ _ _ _ rfl 21 Tryd.underlying34 (by kernel_rfl) _ _ _ _ _ _ rfl rfl nb (low + wide) (zs7.map (Value.int .i32)) 21 HN8.out (((zs.take n).drop high).map (Value.int .i32)) (by have := HZ.out; simp only [List.length_map, List.length_take, List.length_drop]; show _ = min _ _; omega) ?hq (by have := HZ.out; have := HL7.out; simp only [List.length_map, List.length_take, List.length_drop]; omega) (by intro v hv; simp only [List.mem_map] at hv; obtain ⟨z, _, rfl⟩ := hv; rfl) ?_
  case hq =>
    intro h0
    have hlt : high < n := by simp only [List.length_map, List.length_take, List.length_drop] at h0; omega
    refine ⟨HA2.out hlt, _, HA3.out hlt, fun j v hj => ?_⟩
    rw [addr_add, cell_of_row w8 cb (high + j) _ _ _ HB8.out]
    have hz := HZ.out
    simp only [List.getElem?_map, List.getElem?_take, List.getElem?_drop] at hj
    split at hj
    · simpa using hj
    · simp at hj
  intro w9 hw9
  have k0 : Kept (fun j => j = nb) w8 w9 := by rw [hw9.out]; exact Kept.setRow (S := fun j => j = nb) (Kept.refl _ _) rfl _
  have HR9 : Hid (RB w9 rb room cb n c low high moves) := HR8.out.kept k0 (by omega)
  have HN9 : Hid (CB w9 nb (splice zs7 (low + wide) ((zs.take n).drop high))) := by
    have h : w9.heap[nb]? = _ := (congrArg (fun x : World => x.heap[nb]?) hw9.out).trans (setRow_heap _ _ _ _ _ _ HN8.out)
    rw [splice_map] at h
    exact h
  have HK9 : Kept (fun j => j = rb) w w9 := by
    have := (HK8.mono (T := fun j => j = rb ∨ j = nb) (fun _ _ h => .inl h)).trans (k0.mono (fun _ _ h => .inr h))
    exact ⟨this.os, this.tape, this.output, this.size, fun j hj hn => this.block j hj (by rintro (h | h); exact hn h; omega)⟩
  clear k0 hw9 HR8 HB8 HN8 HK8
  have c1 := HR9.out.c1
  have c2 := HR9.out.c2
  have c3 := HR9.out.c3
  have f1 := HR9.out.fr 1
  have f3 := HR9.out.fr 3
  go_wp2
  go_end0
  refine ⟨rfl, (HK9.setCell rfl _).setCell rfl _, nb, hs0, ?_, ?_⟩
  · unfold RB
    rw [heap_set (heap_set HR9.out _) _]
    rfl
  · unfold CB
    rw [heap_far (by omega), heap_far (by omega)]
    rw [← HE7.out]
    exact HN9.out
end Go.Proofs.YthhlchgnjdfpeaaDoor
