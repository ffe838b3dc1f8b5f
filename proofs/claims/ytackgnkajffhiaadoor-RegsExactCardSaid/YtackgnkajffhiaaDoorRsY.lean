/-
  REGISTERS: what Yank and Delete have in common.
-/
import Derived.Test.YtackgnkajffhiaaDoorRsQ
set_option linter.unusedVariables false
namespace Go.Proofs.YtackgnkajffhiaaDoor
open Go Go.RowKit

theorem put_sz {M : List RegS} {r : RegS} {b : Nat} (h : ∀ q ∈ M, q.s.size ≤ b) (hr : r.s.size ≤ b) : ∀ q ∈ Rs.put M r, q.s.size ≤ b := by
  intro q hq
  unfold Rs.put at hq
  rcases List.mem_append.1 hq with hq | hq
  · exact h q (List.mem_filter.1 (List.mem_of_mem_take hq)).1
  · rcases List.mem_cons.1 hq with rfl | hq
    · exact hr
    · exact h q (List.mem_filter.1 (List.mem_of_mem_drop hq)).1
theorem turn_sz {M : List RegS} {b : Nat} (h : ∀ q ∈ M, q.s.size ≤ b) : ∀ q ∈ Rs.turn M, q.s.size ≤ b := by
  intro q hq
  unfold Rs.turn at hq
  obtain ⟨p, hp, rfl⟩ := List.mem_map.1 hq
  have := h p (List.mem_filter.1 hp).1
  unfold Rs.turn1
  split <;> exact this
/-- A slice of registers that may be told on. -/
def Sl (w : World) (v : Value) (M : List RegS) : Prop := ∃ A n c, v = .slice A n c ∧ Rg w A n M ∧ (A = none → n = 0 ∧ c = 0)
theorem Sl.kept {w w' : World} {v : Value} {M : List RegS} (h : Sl w v M) (hk : Kept (fun _ => False) w w') : Sl w' v M := by
  obtain ⟨A, n, c, e, h1, h2⟩ := h
  exact ⟨A, n, c, e, h1.kept hk (fun _ _ => id), h2⟩
theorem Sl.far {S : Nat → Prop} {w w' : World} {v : Value} {M : List RegS} (h : Sl w v M) (hk : Kept S w w') (hs : ∀ A n c, v = .slice (some A) n c → ¬ S A.block) : Sl w' v M := by
  obtain ⟨A, n, c, rfl, h1, h2⟩ := h
  exact ⟨A, n, c, rfl, h1.kept hk (fun a ha => hs a n c (by rw [ha])), h2⟩
theorem Sl.old {S : Nat → Prop} {w w' : World} {v : Value} {M : List RegS} (h : Sl w v M) (hk : Kept S w w') (hs : ∀ p, p < w.heap.size → ¬ S p) : Sl w' v M := by
  obtain ⟨A, n, c, rfl, h1, h2⟩ := h
  refine ⟨A, n, c, rfl, ⟨h1.len, fun k r hr => ?_, h1.sz⟩, h2⟩
  obtain ⟨ad, e, h3⟩ := h1.at' k r hr
  refine ⟨ad, e, h3.kept hk (hs _ (World.block_lt_of_cell? w _ h3.c0))⟩
theorem set_sl (v : Value) (M : List RegS) (r : RegS) (w : World) (h : Sl w v M) (hn : M.length ≤ 100000) (hr : r.s.size ≤ 140737488351232) :
    Calls Tryd.prog 27 #[v, regV r] w fun e w' => (∃ v', e = .returned v' ∧ Sl w' v' (Rs.put M r) ∧ ∀ A n c, v' = .slice (some A) n c → w.heap.size ≤ A.block) ∧ Kept (fun _ => False) w w' := by
  obtain ⟨A, n, c, rfl, h1, h2⟩ := h
  have hl := h1.len
  refine (set_any A n c M r w h1 (by omega)).mono ?_
  rintro e w' ⟨⟨g, rfl, hrm, hge⟩, hk⟩
  exact ⟨⟨_, rfl, ⟨_, _, _, rfl, hrm.rg rfl (put_sz h1.sz hr), fun h => by cases h⟩, fun A n c e => by cases e; exact hge⟩, hk⟩
theorem turn_sl (v : Value) (M : List RegS) (w : World) (h : Sl w v M) (hn : M.length ≤ 100000) :
    Calls Tryd.prog 28 #[v] w fun e w' => (∃ v', e = .returned v' ∧ Sl w' v' (Rs.turn M)) ∧ Kept (fun _ => False) w w' := by
  obtain ⟨A, n, c, rfl, h1, h2⟩ := h
  have hl := h1.len
  refine (turn_any A n c M w h1 (by omega)).mono ?_
  rintro e w' ⟨⟨g, rfl, hrm, _⟩, hk⟩
  exact ⟨⟨_, rfl, _, _, _, rfl, hrm.rg rfl (turn_sz h1.sz), fun h => by cases h⟩, hk⟩
theorem clone_sl (v : Value) (M : List RegS) (w : World) (h : Sl w v M) (hn : M.length ≤ 100000) :
    Calls Tryd.prog 40 #[v] w fun e w' => (∃ v', e = .returned v' ∧ Sl w' v' M) ∧ Kept (fun _ => False) w w' := by
  obtain ⟨A, n, c, rfl, h1, h2⟩ := h
  have hl := h1.len
  refine (clone_any A n c M w h1 h2 (by omega)).mono ?_
  rintro e w' ⟨⟨A', c', rfl, hr, hc⟩, hk⟩
  exact ⟨⟨_, rfl, _, _, _, rfl, hr, hc⟩, hk⟩
theorem check_sl (v : Value) (M : List RegS) (w : World) (h : Sl w v M) (hn : M.length ≤ 100000) (hM : Rs.ok M) (hT : Tabs w) :
    Calls Tryd.prog 8 #[v] w fun e w' => e = .returned (.int .i64 0) ∧ Kept (fun _ => False) w w' := by
  obtain ⟨A, n, c, rfl, h1, h2⟩ := h
  have hl := h1.len
  exact pcheck_ok A n c M w h1 (by omega) hM hT
theorem get_sl (v : Value) (M : List RegS) (z : Int) (w : World) (h : Sl w v M) (hn : M.length ≤ 100000) (hM : Rs.ok M) (hz : Rs.Td z) (hT : Tabs w) :
    Calls Tryd.prog 14 #[v, .int .i64 z] w fun e w' => e = .returned (gotV (Rs.get M (nmOf z))) ∧ Kept (fun _ => False) w w' := by
  obtain ⟨A, n, c, rfl, h1, h2⟩ := h
  have hl := h1.len
  exact pget_ok A n c M z w h1 (by omega) hM hz hT
/-- What is kept where no great name is told. -/
def Rs.kp (M : List RegS) (z : Int) (s : ByteArray) (b : Bool) : List RegS × Bool :=
  if z = 95 then (M, false) else if Rs.Sm z then (Rs.put (Rs.put M ⟨z, s, b⟩) ⟨34, s, b⟩, false) else (Rs.put M ⟨34, s, b⟩, true)
set_option maxRecDepth 100000 in
set_option maxHeartbeats 4000000 in
theorem keep_ok (v : Value) (M : List RegS) (z : Int) (s : ByteArray) (b : Bool) (w : World) (h : Sl w v M) (hn : M.length ≤ 90000) (hM : Rs.ok M) (hz : Rs.Td z) (hg : ¬ Rs.Gt z) (hs : mayB s = true) (hT : Tabs w) :
    Calls Tryd.prog 25 #[v, .int .i64 z, .string s, .bool b] w fun e w' => (∃ v', e = .returned (.tuple #[v', .bool (Rs.kp M z s b).2, .int .i64 0]) ∧ Sl w' v' (Rs.kp M z s b).1) ∧ Kept (fun _ => False) w w' := by
  have hss : s.size ≤ 140737488351232 := by have := mayB_size hs; omega
  have cC := fun W (hk : Kept (fun _ => False) w W) => check_sl v M W (h.kept hk) (by omega) hM (hT.kept hk id id)
  have cT := fun W => told_any z W
  rw [decide_eq_true hz] at cT
  have cK := fun W (hk : Kept (fun _ => False) w W) => check_any s W hss (hT.kept hk id id)
  simp only [hs, if_true] at cK
  have cL := fun W (hk : Kept (fun _ => False) w W) => clone_sl v M W (h.kept hk) (by omega)
  have cG := fun W => great_any z W
  rw [decide_eq_false hg] at cG
  have cS := fun W => small_any z W
  have hl1 : ∀ r, (Rs.put M r).length ≤ M.length + 1 := fun r => by rw [put_len]; have := Rs.wo_len M r.n; omega
  have HL1 := Lib.hid hl1
  have HSS := Lib.hid hss
  have HN := Lib.hid hn
  have HKP : Hid (Rs.kp M z s b = if z = 95 then (M, false) else if Rs.Sm z then (Rs.put (Rs.put M ⟨z, s, b⟩) ⟨34, s, b⟩, false) else (Rs.put M ⟨34, s, b⟩, true)) := rfl
  obtain ⟨E, hE⟩ : ∃ E, Rs.kp M z s b = E := ⟨_, rfl⟩
  rw [hE] at HKP ⊢
  have hzz : z = 95 ∨ (z ≠ 95 ∧ Rs.Sm z) ∨ (z ≠ 95 ∧ ¬ Rs.Sm z) := by
    by_cases h : z = 95
    · exact .inl h
    · by_cases h2 : Rs.Sm z
      · exact .inr (.inl ⟨h, h2⟩)
      · exact .inr (.inr ⟨h, h2⟩)
  clear h hM hz hg hs hT hss hl1 hn hE
  have hk00 := Lib.hid (Kept.refl (fun _ => False) w)
  rcases hzz with rfl | ⟨h0, hsm⟩ | ⟨h0, hsm⟩
  · have HE := Lib.hid (HKP.out.trans (if_pos rfl))
    clear cS cG
    go_enter Tryd.func25, Tryd.ntmps25
    go_wp2_with (first
      | (go_at_call 8; refine (cC _ hk00.out).mono ?_; rintro e w2 ⟨rfl, hk2⟩; have HK2 := Lib.hid hk2; clear hk2)
      | (go_at_call 29; refine (cT _).mono ?_; rintro e w' ⟨rfl, hw⟩; have hw2 := hw.symm; subst hw2)
      | (go_at_call 17; refine (cK _ HK2.out).mono ?_; rintro e w3 ⟨rfl, hk3⟩; have HK3 := Lib.hid (HK2.out.trans hk3); clear hk3)
      | (go_at_call 40; refine (cL _ HK3.out).mono ?_; rintro e w4 ⟨⟨v4, rfl, hs4⟩, hk4⟩; have HS4 := Lib.hid hs4; have HK4 := Lib.hid (HK3.out.trans hk4); clear hk4 hs4))
    go_ret3
    exact ⟨⟨v4, by rw [HE.out]; rfl, by rw [HE.out]; exact HS4.out⟩, HK4.out⟩
  · have HE := Lib.hid (HKP.out.trans ((if_neg h0).trans (if_pos hsm)))
    have b0 : (z == 95) = false := beq_eq_false_iff_ne.2 h0
    rw [decide_eq_true hsm] at cS
    clear hsm h0
    go_enter Tryd.func25, Tryd.ntmps25
    go_upto_region 7 with (first
      | (go_at_call 8; refine (cC _ hk00.out).mono ?_; rintro e w2 ⟨rfl, hk2⟩; have HK2 := Lib.hid hk2; clear hk2)
      | (go_at_call 29; refine (cT _).mono ?_; rintro e w' ⟨rfl, hw⟩; have hw2 := hw.symm; subst hw2)
      | (go_at_call 17; refine (cK _ HK2.out).mono ?_; rintro e w3 ⟨rfl, hk3⟩; have HK3 := Lib.hid (HK2.out.trans hk3); clear hk3)
      | (go_at_call 40; refine (cL _ HK3.out).mono ?_; rintro e w4 ⟨⟨v4, rfl, hs4⟩, hk4⟩; have HS4 := Lib.hid hs4; have HK4 := Lib.hid (HK3.out.trans hk4); clear hk4 hs4))
    have hbx := heap_alloc_new w4 (regO ⟨z, s, b⟩)
    have hk5 : Kept (fun _ => False) w4 (w4.alloc (regO ⟨z, s, b⟩)) := (Kept.refl _ _).alloc _
    have HS5 := Lib.hid (HS4.out.kept hk5)
    have HK5 := Lib.hid hk5
    have hq5 : w4.heap.size < (w4.alloc (regO ⟨z, s, b⟩)).heap.size := heap_lt hbx
    have HQ5 := Lib.hid hq5
    have HBX := Lib.hid hbx
    clear hk5 hbx hq5
    simp only [regO] at HS5 HK5 HBX HQ5
    generalize w4.alloc (.cells #[.int .i64 z, .string s, .bool b] 41) = w5 at *
    generalize hqq : w4.heap.size = q at *
    have HQQ := Lib.hid hqq
    clear hqq
    obtain ⟨⟨p0, p1, p2⟩, f0, f1, f2⟩ := rzs (r := ⟨z, s, b⟩) HBX.out
    go_upto_region 14 with (first
      | (go_at_call 33; refine (cS _).mono ?_; rintro e w' ⟨rfl, hw⟩; have hw2 := hw.symm; subst hw2)
      | (go_at_call 30; refine (cG _).mono ?_; rintro e w' ⟨rfl, hw⟩; have hw2 := hw.symm; subst hw2)
      | (go_at_call 27; refine (set_sl v4 M ⟨z, s, b⟩ _ HS5.out (by have := HN.out; omega) HSS.out).mono ?_; rintro e w6 ⟨⟨v6, rfl, hs6, hb6⟩, hk6⟩; have HS6 := Lib.hid hs6; have HB6 := Lib.hid hb6; have HK6 := Lib.hid hk6; clear hs6 hb6 hk6))
    clear p0 p1 p2 f0 f1 f2
    have HZ6 := Lib.hid ((HK6.out.block q (heap_lt HBX.out) id).trans HBX.out)
    obtain ⟨⟨p0, p1, p2⟩, f0, f1, f2⟩ := rzs (r := ⟨z, s, b⟩) HZ6.out
    have hz7 : (w6.setCell ⟨q, 0, none⟩ (.int .i64 34)).heap[q]? = some (.cells #[.int .i64 34, .string s, .bool b] 41 (0, 0)) := heap_set HZ6.out (.int .i64 34)
    have HZ7 := Lib.hid hz7
    have hk7 : Kept (fun p => p = q) w6 (w6.setCell ⟨q, 0, none⟩ (.int .i64 34)) := (Kept.refl (fun p => p = q) w6).setCell (p := ⟨q, 0, none⟩) rfl _
    have HK7 := Lib.hid hk7
    have HS7 := Lib.hid (HS6.out.far hk7 (fun A n c e hq => by have := HB6.out A n c e; have := HQ5.out; have hq : A.block = q := hq; omega))
    clear hk7 hz7
    go_upto_region 15 with fail
    clear p0 p1 p2 f0 f1 f2
    generalize w6.setCell ⟨q, 0, none⟩ (.int .i64 34) = w7 at *
    obtain ⟨⟨p0, p1, p2⟩, f0, f1, f2⟩ := rzs (r := ⟨34, s, b⟩) HZ7.out
    go_wp2_with (go_at_call 27; refine (set_sl v6 _ ⟨34, s, b⟩ _ HS7.out (by have := HN.out; have := HL1.out ⟨z, s, b⟩; omega) HSS.out).mono ?_; rintro e w8 ⟨⟨v8, rfl, hs8, hb8⟩, hk8⟩; have HS8 := Lib.hid hs8; have HK8 := Lib.hid hk8; clear hs8 hb8 hk8)
    go_ret3
    exact ⟨⟨v8, by rw [HE.out]; rfl, by rw [HE.out]; exact HS8.out⟩, (HK4.out.trans (HK5.out.trans HK6.out)).fresh (HK7.out.trans HK8.out.any) (fun p hp e => by have e : p = q := e; have := HQQ.out; have := HK4.out.size; omega)⟩
  · have HE := Lib.hid (HKP.out.trans ((if_neg h0).trans (if_neg hsm)))
    have b0 : (z == 95) = false := beq_eq_false_iff_ne.2 h0
    rw [decide_eq_false hsm] at cS
    clear hsm h0
    go_enter Tryd.func25, Tryd.ntmps25
    go_upto_region 7 with (first
      | (go_at_call 8; refine (cC _ hk00.out).mono ?_; rintro e w2 ⟨rfl, hk2⟩; have HK2 := Lib.hid hk2; clear hk2)
      | (go_at_call 29; refine (cT _).mono ?_; rintro e w' ⟨rfl, hw⟩; have hw2 := hw.symm; subst hw2)
      | (go_at_call 17; refine (cK _ HK2.out).mono ?_; rintro e w3 ⟨rfl, hk3⟩; have HK3 := Lib.hid (HK2.out.trans hk3); clear hk3)
      | (go_at_call 40; refine (cL _ HK3.out).mono ?_; rintro e w4 ⟨⟨v4, rfl, hs4⟩, hk4⟩; have HS4 := Lib.hid hs4; have HK4 := Lib.hid (HK3.out.trans hk4); clear hk4 hs4))
    have hbx := heap_alloc_new w4 (regO ⟨z, s, b⟩)
    have hk5 : Kept (fun _ => False) w4 (w4.alloc (regO ⟨z, s, b⟩)) := (Kept.refl _ _).alloc _
    have HS5 := Lib.hid (HS4.out.kept hk5)
    have HK5 := Lib.hid hk5
    have hq5 : w4.heap.size < (w4.alloc (regO ⟨z, s, b⟩)).heap.size := heap_lt hbx
    have HQ5 := Lib.hid hq5
    have HBX := Lib.hid hbx
    clear hk5 hbx hq5
    simp only [regO] at HS5 HK5 HBX HQ5
    generalize w4.alloc (.cells #[.int .i64 z, .string s, .bool b] 41) = w5 at *
    generalize hqq : w4.heap.size = q at *
    have HQQ := Lib.hid hqq
    clear hqq
    obtain ⟨⟨p0, p1, p2⟩, f0, f1, f2⟩ := rzs (r := ⟨z, s, b⟩) HBX.out
    go_upto_region 14 with (first
      | (go_at_call 33; refine (cS _).mono ?_; rintro e w' ⟨rfl, hw⟩; have hw2 := hw.symm; subst hw2)
      | (go_at_call 30; refine (cG _).mono ?_; rintro e w' ⟨rfl, hw⟩; have hw2 := hw.symm; subst hw2))
    have hz7 : (w5.setCell ⟨q, 0, none⟩ (.int .i64 34)).heap[q]? = some (.cells #[.int .i64 34, .string s, .bool b] 41 (0, 0)) := heap_set HBX.out (.int .i64 34)
    have HZ7 := Lib.hid hz7
    have hk7 : Kept (fun p => p = q) w5 (w5.setCell ⟨q, 0, none⟩ (.int .i64 34)) := (Kept.refl (fun p => p = q) w5).setCell (p := ⟨q, 0, none⟩) rfl _
    have HK7 := Lib.hid hk7
    have HS7 := Lib.hid (HS4.out.old (HK5.out.any.trans hk7) (fun p hp e => by have e : p = q := e; have := HQQ.out; omega))
    clear hk7 hz7
    go_upto_region 15 with fail
    clear p0 p1 p2 f0 f1 f2
    generalize w5.setCell ⟨q, 0, none⟩ (.int .i64 34) = w7 at *
    obtain ⟨⟨p0, p1, p2⟩, f0, f1, f2⟩ := rzs (r := ⟨34, s, b⟩) HZ7.out
    go_wp2_with (go_at_call 27; refine (set_sl v4 M ⟨34, s, b⟩ _ HS7.out (by have := HN.out; omega) HSS.out).mono ?_; rintro e w8 ⟨⟨v8, rfl, hs8, hb8⟩, hk8⟩; have HS8 := Lib.hid hs8; have HK8 := Lib.hid hk8; clear hs8 hb8 hk8)
    go_ret3
    exact ⟨⟨v8, by rw [HE.out]; rfl, by rw [HE.out]; exact HS8.out⟩, (HK4.out.trans HK5.out).fresh (HK7.out.trans HK8.out.any) (fun p hp e => by have e : p = q := e; have := HQQ.out; have := HK4.out.size; omega)⟩
end Go.Proofs.YtackgnkajffhiaaDoor
