/-
  REGISTERS: keep, Yank, Delete, whatever they are handed.
-/
import Derived.Test.YtackgnkajffhiaaDoorReC
set_option linter.unusedVariables false
namespace Go.Proofs.YtackgnkajffhiaaDoor
open Go Go.RowKit

/-- What keep tells of what may be. -/
def KeepOk (w' : World) (B : Nat) (o : Option (List RegS × Bool)) (e : Ending) : Prop := match o with
  | none => e = .returned (.tuple #[.slice none 0 0, .bool false, .int .i64 4])
  | some x => ∃ v', e = .returned (.tuple #[v', .bool x.2, .int .i64 0]) ∧ Ow w' B v' x.1
/-- What Yank and Delete tell of what may be. -/
def TellOk (w' : World) (B : Nat) (o : Option (List RegS)) (e : Ending) : Prop := match o with
  | none => e = .returned (.tuple #[.slice none 0 0, .int .i64 4])
  | some X => ∃ v', e = .returned (.tuple #[v', .int .i64 0]) ∧ Ow w' B v' X
theorem kpA_le {M X : List RegS} {z : Int} {s : ByteArray} {b t : Bool} (h : Rs.kpA M z s b = some (X, t)) : X.length ≤ M.length + 2 := by
  unfold Rs.kpA at h
  have hp := put_le
  split at h
  · injection h with h; injection h with h _; subst h; omega
  · split at h
    · injection h with h
      injection h with h _
      subst h
      have h1 := hp M ⟨z, s, b⟩
      have h2 := hp (Rs.put M ⟨z, s, b⟩) ⟨34, s, b⟩
      omega
    · split at h
      · cases hb : Rs.bh M z s b with
        | none => rw [hb] at h; cases h
        | some r =>
          rw [hb] at h
          simp only [Option.map_some, Option.some.injEq, Prod.mk.injEq] at h
          obtain ⟨h, _⟩ := h
          subst h
          have h1 := hp M r
          have h2 := hp (Rs.put M r) ⟨34, r.s, r.b⟩
          omega
      · injection h with h
        injection h with h _
        subst h
        have h1 := hp M ⟨34, s, b⟩
        omega
set_option maxRecDepth 100000 in
set_option maxHeartbeats 8000000 in
theorem keep_yes (v : Value) (M : List RegS) (z : Int) (s : ByteArray) (b : Bool) (w : World) (h : Sl w v M) (hn : M.length ≤ 90000) (hM : Rs.okB M = true) (hz : Rs.Td z) (hs : mayB s = true) (hT : Tabs w) :
    Calls Tryd.prog 25 #[v, .int .i64 z, .string s, .bool b] w fun e w' => KeepOk w' w.heap.size (Rs.kpA M z s b) e ∧ Kept (fun _ => False) w w' := by
  have hss : s.size ≤ 140737488351232 := by have := mayB_size hs; omega
  have hok := Rs.ok_of hM
  have cC := fun W (hk : Kept (fun _ => False) w W) => check_sl v M W (h.kept hk) (by omega) hok (hT.kept hk id id)
  have cT := fun W => told_any z W
  rw [decide_eq_true hz] at cT
  have cK := fun W (hk : Kept (fun _ => False) w W) => check_any s W hss (hT.kept hk id id)
  have hbhs : ∀ r, Rs.bh M z s b = some r → r.s.size ≤ 140737488351232 := fun r hr => by
    unfold Rs.bh at hr
    cases hg : Rs.get M (z + 32) with
    | none => rw [hg] at hr; injection hr with hr; subst hr; exact hss
    | some q =>
      rw [hg] at hr
      simp only at hr
      split at hr
      · rename_i hm
        injection hr with hr
        subst hr
        have := mayB_size hm
        show (Rs.jn q s b).size ≤ _
        omega
      · cases hr
  have cB := fun W (hk : Kept (fun _ => False) w W) (hg : Rs.Gt z) => behind_any v M z s b W (h.kept hk) (by omega) hM hg hs (hT.kept hk id id)
  simp only [hs, if_true] at cK
  have cL := fun W (hk : Kept (fun _ => False) w W) => clone_ow v M W (h.kept hk) (by omega)
  have cG := fun W => great_any z W
  have cS := fun W => small_any z W
  have hl1 : ∀ r, (Rs.put M r).length ≤ M.length + 1 := fun r => by rw [put_len]; have := Rs.wo_len M r.n; omega
  have HL1 := Lib.hid hl1
  have HSS := Lib.hid hss
  have HN := Lib.hid hn
  have HBS := Lib.hid hbhs
  have HKP : Hid (Rs.kpA M z s b = if z = 95 then some (M, false) else if Rs.Sm z then some (Rs.put (Rs.put M ⟨z, s, b⟩) ⟨34, s, b⟩, false) else if Rs.Gt z then (Rs.bh M z s b).map (fun r => (Rs.put (Rs.put M r) ⟨34, r.s, r.b⟩, false)) else some (Rs.put M ⟨34, s, b⟩, true)) := rfl
  obtain ⟨E, hE⟩ : ∃ E, Rs.kpA M z s b = E := ⟨_, rfl⟩
  rw [hE] at HKP ⊢
  obtain ⟨H, hH⟩ : ∃ H, Rs.bh M z s b = H := ⟨_, rfl⟩
  rw [hH] at HKP HBS
  simp only [hH] at cB
  have hzz : z = 95 ∨ (z ≠ 95 ∧ Rs.Sm z ∧ ¬ Rs.Gt z) ∨ (z ≠ 95 ∧ ¬ Rs.Sm z ∧ Rs.Gt z) ∨ (z ≠ 95 ∧ ¬ Rs.Sm z ∧ ¬ Rs.Gt z) := by
    by_cases h : z = 95
    · exact .inl h
    · by_cases h2 : Rs.Sm z
      · exact .inr (.inl ⟨h, h2, fun h3 => by unfold Rs.Sm at h2; unfold Rs.Gt at h3; omega⟩)
      · by_cases h3 : Rs.Gt z
        · exact .inr (.inr (.inl ⟨h, h2, h3⟩))
        · exact .inr (.inr (.inr ⟨h, h2, h3⟩))
  clear h hM hok hz hs hT hss hl1 hn hE hbhs hH
  have hk00 := Lib.hid (Kept.refl (fun _ => False) w)
  rcases hzz with rfl | ⟨h0, hsm, hgr⟩ | ⟨h0, hsm, hgr⟩ | ⟨h0, hsm, hgr⟩
  · have HE : Hid (E = some (M, false)) := HKP.out.trans (if_pos rfl)
    clear cS cG cB
    go_enter Tryd.func25, Tryd.ntmps25
    go_wp2_with (first
      | (go_at_call 8; refine (cC _ hk00.out).mono ?_; rintro e w2 ⟨rfl, hk2⟩; have HK2 := Lib.hid hk2; clear hk2)
      | (go_at_call 29; refine (cT _).mono ?_; rintro e w' ⟨rfl, hw⟩; have hw2 := hw.symm; subst hw2)
      | (go_at_call 17; refine (cK _ HK2.out).mono ?_; rintro e w3 ⟨rfl, hk3⟩; have HK3 := Lib.hid (HK2.out.trans hk3); clear hk3)
      | (go_at_call 40; refine (cL _ HK3.out).mono ?_; rintro e w4 ⟨⟨v4, rfl, hs4⟩, hk4⟩; have HS4 := Lib.hid hs4; have HK4 := Lib.hid (HK3.out.trans hk4); clear hk4 hs4))
    go_ret3
    refine ⟨?_, HK4.out⟩
    rw [HE.out]
    exact ⟨v4, rfl, HS4.out.mono HK3.out.size⟩
  · have HE : Hid (E = some (Rs.put (Rs.put M ⟨z, s, b⟩) ⟨34, s, b⟩, false)) := HKP.out.trans ((if_neg h0).trans (if_pos hsm))
    have b0 : (z == 95) = false := beq_eq_false_iff_ne.2 h0
    rw [decide_eq_true hsm] at cS
    rw [decide_eq_false hgr] at cG
    clear hsm h0 hgr cB
    go_enter Tryd.func25, Tryd.ntmps25
    go_upto_region 7 with (first
      | (go_at_call 8; refine (cC _ hk00.out).mono ?_; rintro e w2 ⟨rfl, hk2⟩; have HK2 := Lib.hid hk2; clear hk2)
      | (go_at_call 29; refine (cT _).mono ?_; rintro e w' ⟨rfl, hw⟩; have hw2 := hw.symm; subst hw2)
      | (go_at_call 17; refine (cK _ HK2.out).mono ?_; rintro e w3 ⟨rfl, hk3⟩; have HK3 := Lib.hid (HK2.out.trans hk3); clear hk3)
      | (go_at_call 40; refine (cL _ HK3.out).mono ?_; rintro e w4 ⟨⟨v4, rfl, hs4⟩, hk4⟩; have HS4 := Lib.hid hs4; have HK4 := Lib.hid (HK3.out.trans hk4); clear hk4 hs4))
    have hbx := heap_alloc_new w4 (regO ⟨z, s, b⟩)
    have hk5 : Kept (fun _ => False) w4 (w4.alloc (regO ⟨z, s, b⟩)) := (Kept.refl _ _).alloc _
    have HS5 := Lib.hid (HS4.out.keep hk5)
    have HK5 := Lib.hid hk5
    have hq5 : w4.heap.size < (w4.alloc (regO ⟨z, s, b⟩)).heap.size := heap_lt hbx
    have HQ5 := Lib.hid hq5
    have HBX := Lib.hid hbx
    clear hk5 hbx hq5
    simp only [regO] at HS5 HK5 HBX HQ5
    generalize w4.alloc (.cells #[.int .i64 z, .string s, .bool b] 41) = w5 at *
    generalize hqq : w4.heap.size = q at *
    have HQQ := Lib.hid hqq
    clear hqq
    obtain ⟨⟨p0, p1, p2⟩, f0, f1, f2⟩ := rzs (r := ⟨z, s, b⟩) HBX.out
    go_upto_region 14 with (first
      | (go_at_call 33; refine (cS _).mono ?_; rintro e w' ⟨rfl, hw⟩; have hw2 := hw.symm; subst hw2)
      | (go_at_call 30; refine (cG _).mono ?_; rintro e w' ⟨rfl, hw⟩; have hw2 := hw.symm; subst hw2)
      | (go_at_call 27; refine (set_ow v4 M ⟨z, s, b⟩ _ HS5.out.sl (by have := HN.out; omega) HSS.out).mono ?_; rintro e w6 ⟨⟨v6, rfl, hs6⟩, hk6⟩; have HS6 := Lib.hid hs6; have HK6 := Lib.hid hk6; clear hs6 hk6))
    clear p0 p1 p2 f0 f1 f2
    have HZ6 := Lib.hid (HK6.out.cellsAt HBX.out id)
    obtain ⟨⟨p0, p1, p2⟩, f0, f1, f2⟩ := rzs (r := ⟨z, s, b⟩) HZ6.out
    have hz7 : (w6.setCell ⟨q, 0, none⟩ (.int .i64 34)).heap[q]? = some (.cells #[.int .i64 34, .string s, .bool b] 41 (0, 0)) := heap_set HZ6.out (.int .i64 34)
    have HZ7 := Lib.hid hz7
    have hk7 : Kept (fun p => p = q) w6 (w6.setCell ⟨q, 0, none⟩ (.int .i64 34)) := (Kept.refl (fun p => p = q) w6).setCell (p := ⟨q, 0, none⟩) rfl _
    have HK7 := Lib.hid hk7
    have HS7 := Lib.hid (HS6.out.kept hk7 (fun k hk hq => by have := (HS6.out.lt k hk).1; have := HQ5.out; have hq : k = q := hq; omega))
    clear hk7 hz7
    go_upto_region 15 with fail
    clear p0 p1 p2 f0 f1 f2
    generalize w6.setCell ⟨q, 0, none⟩ (.int .i64 34) = w7 at *
    obtain ⟨⟨p0, p1, p2⟩, f0, f1, f2⟩ := rzs (r := ⟨34, s, b⟩) HZ7.out
    go_wp2_with (go_at_call 27; refine (set_ow v6 _ ⟨34, s, b⟩ _ HS7.out.sl (by have := HN.out; have := HL1.out ⟨z, s, b⟩; omega) HSS.out).mono ?_; rintro e w8 ⟨⟨v8, rfl, hs8⟩, hk8⟩; have HS8 := Lib.hid hs8; have HK8 := Lib.hid hk8; clear hs8 hk8)
    go_ret3
    refine ⟨?_, (HK4.out.trans (HK5.out.trans HK6.out)).fresh (HK7.out.trans HK8.out.any) (fun p hp e => by have e : p = q := e; have := HQQ.out; have := HK4.out.size; omega)⟩
    rw [HE.out]
    exact ⟨v8, rfl, HS8.out.mono (Nat.le_trans HK4.out.size (Nat.le_trans HK5.out.size (Nat.le_trans HK6.out.size HK7.out.size)))⟩
  · have b0 : (z == 95) = false := beq_eq_false_iff_ne.2 h0
    have HE0 : Hid (E = H.map (fun r => (Rs.put (Rs.put M r) ⟨34, r.s, r.b⟩, false))) := HKP.out.trans ((if_neg h0).trans ((if_neg hsm).trans (if_pos hgr)))
    have cB2 := fun W hk => cB W hk hgr
    rw [decide_eq_false hsm] at cS
    rw [decide_eq_true hgr] at cG
    clear hsm h0 hgr cB
    go_enter Tryd.func25, Tryd.ntmps25
    go_upto_region 7 with (first
      | (go_at_call 8; refine (cC _ hk00.out).mono ?_; rintro e w2 ⟨rfl, hk2⟩; have HK2 := Lib.hid hk2; clear hk2)
      | (go_at_call 29; refine (cT _).mono ?_; rintro e w' ⟨rfl, hw⟩; have hw2 := hw.symm; subst hw2)
      | (go_at_call 17; refine (cK _ HK2.out).mono ?_; rintro e w3 ⟨rfl, hk3⟩; have HK3 := Lib.hid (HK2.out.trans hk3); clear hk3)
      | (go_at_call 40; refine (cL _ HK3.out).mono ?_; rintro e w4 ⟨⟨v4, rfl, hs4⟩, hk4⟩; have HS4 := Lib.hid hs4; have HK4 := Lib.hid (HK3.out.trans hk4); clear hk4 hs4))
    have hbx := heap_alloc_new w4 (regO ⟨z, s, b⟩)
    have hk5 : Kept (fun _ => False) w4 (w4.alloc (regO ⟨z, s, b⟩)) := (Kept.refl _ _).alloc _
    have HS5 := Lib.hid (HS4.out.keep hk5)
    have HK5 := Lib.hid hk5
    have hq5 : w4.heap.size < (w4.alloc (regO ⟨z, s, b⟩)).heap.size := heap_lt hbx
    have HQ5 := Lib.hid hq5
    have HBX := Lib.hid hbx
    clear hk5 hbx hq5
    simp only [regO] at HS5 HK5 HBX HQ5
    generalize w4.alloc (.cells #[.int .i64 z, .string s, .bool b] 41) = w5 at *
    generalize hqq : w4.heap.size = q at *
    have HQQ := Lib.hid hqq
    clear hqq
    obtain ⟨⟨p0, p1, p2⟩, f0, f1, f2⟩ := rzs (r := ⟨z, s, b⟩) HBX.out
    cases H with
    | none =>
      unfold bhV at cB2
      simp only at cB2
      have HE : Hid (E = none) := HE0.out
      have hz0 : ∀ w6, Kept (fun _ => False) w5 w6 → (w6.cell? ⟨q, 0, none⟩ = some (.int .i64 z) ∧ w6.cell? ⟨q, 1, none⟩ = some (.string s) ∧ w6.cell? ⟨q, 2, none⟩ = some (.bool b)) ∧ w6.frozen? ⟨q, 0, none⟩ = false ∧ w6.frozen? ⟨q, 1, none⟩ = false ∧ w6.frozen? ⟨q, 2, none⟩ = false := fun w6 hk => rzs (r := ⟨z, s, b⟩) (hk.cellsAt HBX.out id)
      have HZ0 := Lib.hid hz0
      clear hz0
      go_wp2_with (first
        | (go_at_call 33; refine (cS _).mono ?_; rintro e w' ⟨rfl, hw⟩; have hw2 := hw.symm; subst hw2)
        | (go_at_call 30; refine (cG _).mono ?_; rintro e w' ⟨rfl, hw⟩; have hw2 := hw.symm; subst hw2)
        | (go_at_call 41; refine (cB2 _ (HK4.out.trans HK5.out)).mono ?_; clear p0 p1 p2 f0 f1 f2; rintro e w6 ⟨rfl, hk6⟩; have HK6 := Lib.hid hk6; obtain ⟨⟨p0, p1, p2⟩, f0, f1, f2⟩ := HZ0.out w6 hk6; clear hk6))
      go_ret3
      refine ⟨?_, (HK4.out.trans (HK5.out.trans HK6.out)).fresh (Kept.three (Kept.refl (fun p => p = q) w6) rfl _ _ _) (fun p hp e => by have e : p = q := e; have := HQQ.out; have := HK4.out.size; omega)⟩
      rw [HE.out]
      exact rfl
    | some r =>
      obtain ⟨rn, rs', rb'⟩ := r
      unfold bhV at cB2
      simp only at cB2
      have HE : Hid (E = some (Rs.put (Rs.put M ⟨rn, rs', rb'⟩) ⟨34, rs', rb'⟩, false)) := HE0.out
      have HRS : Hid (rs'.size ≤ 140737488351232) := HBS.out _ rfl
      have hz0 : ∀ w6, Kept (fun _ => False) w5 w6 → (w6.cell? ⟨q, 0, none⟩ = some (.int .i64 z) ∧ w6.cell? ⟨q, 1, none⟩ = some (.string s) ∧ w6.cell? ⟨q, 2, none⟩ = some (.bool b)) ∧ w6.frozen? ⟨q, 0, none⟩ = false ∧ w6.frozen? ⟨q, 1, none⟩ = false ∧ w6.frozen? ⟨q, 2, none⟩ = false := fun w6 hk => rzs (r := ⟨z, s, b⟩) (hk.cellsAt HBX.out id)
      have HZ0 := Lib.hid hz0
      clear hz0
      go_upto_region 10 with (first
        | (go_at_call 33; refine (cS _).mono ?_; rintro e w' ⟨rfl, hw⟩; have hw2 := hw.symm; subst hw2)
        | (go_at_call 30; refine (cG _).mono ?_; rintro e w' ⟨rfl, hw⟩; have hw2 := hw.symm; subst hw2)
        | (go_at_call 41; refine (cB2 _ (HK4.out.trans HK5.out)).mono ?_; clear p0 p1 p2 f0 f1 f2; rintro e wb ⟨rfl, hkb⟩; have HKB := Lib.hid hkb; obtain ⟨⟨p0, p1, p2⟩, f0, f1, f2⟩ := HZ0.out wb hkb; clear hkb))
      have HBB : Hid ((((wb.setCell ⟨q, 0, none⟩ (.int .i64 rn)).setCell ⟨q, 1, none⟩ (.string rs')).setCell ⟨q, 2, none⟩ (.bool rb')).heap[q]? = some (regO ⟨rn, rs', rb'⟩)) := three (HKB.out.cellsAt HBX.out id) _ _ _
      have hkx : Kept (fun p => p = q) wb (((wb.setCell ⟨q, 0, none⟩ (.int .i64 rn)).setCell ⟨q, 1, none⟩ (.string rs')).setCell ⟨q, 2, none⟩ (.bool rb')) := Kept.three (Kept.refl (fun p => p = q) wb) rfl _ _ _
      have HSX := Lib.hid ((HS5.out.keep HKB.out).kept hkx (fun k hk e => by have e : k = q := e; have := (HS4.out.lt k hk).2; have := HQQ.out; omega))
      have HKX := Lib.hid ((HK4.out.trans (HK5.out.trans HKB.out)).fresh hkx (fun p hp e => by have e : p = q := e; have := HQQ.out; have := HK4.out.size; omega))
      have HQX : Hid (q < (((wb.setCell ⟨q, 0, none⟩ (.int .i64 rn)).setCell ⟨q, 1, none⟩ (.string rs')).setCell ⟨q, 2, none⟩ (.bool rb')).heap.size) := heap_lt HBB.out
      clear hkx p0 p1 p2 f0 f1 f2 HBX HQ5
      simp only [regO] at HBB HSX HKX HQX
      generalize ((wb.setCell ⟨q, 0, none⟩ (.int .i64 rn)).setCell ⟨q, 1, none⟩ (.string rs')).setCell ⟨q, 2, none⟩ (.bool rb') = wx at *
      obtain ⟨⟨p0, p1, p2⟩, f0, f1, f2⟩ := rzs (r := ⟨rn, rs', rb'⟩) HBB.out
      have HBX := HBB
      have HQ5 := HQX
      go_upto_region 14 with (go_at_call 27; refine (set_ow v4 M ⟨rn, rs', rb'⟩ _ HSX.out.sl (by have := HN.out; omega) HRS.out).mono ?_; rintro e w6 ⟨⟨v6, rfl, hs6⟩, hk6⟩; have HS6 := Lib.hid hs6; have HK6 := Lib.hid hk6; clear hs6 hk6)
      clear p0 p1 p2 f0 f1 f2
      have HZ6 := Lib.hid (HK6.out.cellsAt HBX.out id)
      obtain ⟨⟨p0, p1, p2⟩, f0, f1, f2⟩ := rzs (r := ⟨rn, rs', rb'⟩) HZ6.out
      have hz7 : (w6.setCell ⟨q, 0, none⟩ (.int .i64 34)).heap[q]? = some (.cells #[.int .i64 34, .string rs', .bool rb'] 41 (0, 0)) := heap_set HZ6.out (.int .i64 34)
      have HZ7 := Lib.hid hz7
      have hk7 : Kept (fun p => p = q) w6 (w6.setCell ⟨q, 0, none⟩ (.int .i64 34)) := (Kept.refl (fun p => p = q) w6).setCell (p := ⟨q, 0, none⟩) rfl _
      have HK7 := Lib.hid hk7
      have HS7 := Lib.hid (HS6.out.kept hk7 (fun k hk hq => by have := (HS6.out.lt k hk).1; have := HQ5.out; have hq : k = q := hq; omega))
      clear hk7 hz7
      go_upto_region 15 with fail
      clear p0 p1 p2 f0 f1 f2
      generalize w6.setCell ⟨q, 0, none⟩ (.int .i64 34) = w7 at *
      obtain ⟨⟨p0, p1, p2⟩, f0, f1, f2⟩ := rzs (r := ⟨34, rs', rb'⟩) HZ7.out
      go_wp2_with (go_at_call 27; refine (set_ow v6 _ ⟨34, rs', rb'⟩ _ HS7.out.sl (by have := HN.out; have := HL1.out ⟨rn, rs', rb'⟩; omega) HRS.out).mono ?_; rintro e w8 ⟨⟨v8, rfl, hs8⟩, hk8⟩; have HS8 := Lib.hid hs8; have HK8 := Lib.hid hk8; clear hs8 hk8)
      go_ret3
      refine ⟨?_, (HKX.out.trans HK6.out).fresh (HK7.out.trans HK8.out.any) (fun p hp e => by have e : p = q := e; have := HQQ.out; have := HK4.out.size; omega)⟩
      rw [HE.out]
      exact ⟨v8, rfl, HS8.out.mono (Nat.le_trans HKX.out.size (Nat.le_trans HK6.out.size HK7.out.size))⟩
  · have HE : Hid (E = some (Rs.put M ⟨34, s, b⟩, true)) := HKP.out.trans ((if_neg h0).trans ((if_neg hsm).trans (if_neg hgr)))
    have b0 : (z == 95) = false := beq_eq_false_iff_ne.2 h0
    rw [decide_eq_false hsm] at cS
    rw [decide_eq_false hgr] at cG
    clear hsm h0 hgr cB
    go_enter Tryd.func25, Tryd.ntmps25
    go_upto_region 7 with (first
      | (go_at_call 8; refine (cC _ hk00.out).mono ?_; rintro e w2 ⟨rfl, hk2⟩; have HK2 := Lib.hid hk2; clear hk2)
      | (go_at_call 29; refine (cT _).mono ?_; rintro e w' ⟨rfl, hw⟩; have hw2 := hw.symm; subst hw2)
      | (go_at_call 17; refine (cK _ HK2.out).mono ?_; rintro e w3 ⟨rfl, hk3⟩; have HK3 := Lib.hid (HK2.out.trans hk3); clear hk3)
      | (go_at_call 40; refine (cL _ HK3.out).mono ?_; rintro e w4 ⟨⟨v4, rfl, hs4⟩, hk4⟩; have HS4 := Lib.hid hs4; have HK4 := Lib.hid (HK3.out.trans hk4); clear hk4 hs4))
    have hbx := heap_alloc_new w4 (regO ⟨z, s, b⟩)
    have hk5 : Kept (fun _ => False) w4 (w4.alloc (regO ⟨z, s, b⟩)) := (Kept.refl _ _).alloc _
    have HS5 := Lib.hid (HS4.out.keep hk5)
    have HK5 := Lib.hid hk5
    have hq5 : w4.heap.size < (w4.alloc (regO ⟨z, s, b⟩)).heap.size := heap_lt hbx
    have HQ5 := Lib.hid hq5
    have HBX := Lib.hid hbx
    clear hk5 hbx hq5
    simp only [regO] at HS5 HK5 HBX HQ5
    generalize w4.alloc (.cells #[.int .i64 z, .string s, .bool b] 41) = w5 at *
    generalize hqq : w4.heap.size = q at *
    have HQQ := Lib.hid hqq
    clear hqq
    obtain ⟨⟨p0, p1, p2⟩, f0, f1, f2⟩ := rzs (r := ⟨z, s, b⟩) HBX.out
    go_upto_region 14 with (first
      | (go_at_call 33; refine (cS _).mono ?_; rintro e w' ⟨rfl, hw⟩; have hw2 := hw.symm; subst hw2)
      | (go_at_call 30; refine (cG _).mono ?_; rintro e w' ⟨rfl, hw⟩; have hw2 := hw.symm; subst hw2))
    have hz7 : (w5.setCell ⟨q, 0, none⟩ (.int .i64 34)).heap[q]? = some (.cells #[.int .i64 34, .string s, .bool b] 41 (0, 0)) := heap_set HBX.out (.int .i64 34)
    have HZ7 := Lib.hid hz7
    have hk7 : Kept (fun p => p = q) w5 (w5.setCell ⟨q, 0, none⟩ (.int .i64 34)) := (Kept.refl (fun p => p = q) w5).setCell (p := ⟨q, 0, none⟩) rfl _
    have HK7 := Lib.hid hk7
    have HS7 := Lib.hid (HS5.out.kept hk7 (fun k hk e => by have e : k = q := e; have := (HS4.out.lt k hk).2; have := HQQ.out; omega))
    clear hk7 hz7
    go_upto_region 15 with fail
    clear p0 p1 p2 f0 f1 f2
    generalize w5.setCell ⟨q, 0, none⟩ (.int .i64 34) = w7 at *
    obtain ⟨⟨p0, p1, p2⟩, f0, f1, f2⟩ := rzs (r := ⟨34, s, b⟩) HZ7.out
    go_wp2_with (go_at_call 27; refine (set_ow v4 M ⟨34, s, b⟩ _ HS7.out.sl (by have := HN.out; omega) HSS.out).mono ?_; rintro e w8 ⟨⟨v8, rfl, hs8⟩, hk8⟩; have HS8 := Lib.hid hs8; have HK8 := Lib.hid hk8; clear hs8 hk8)
    go_ret3
    refine ⟨?_, (HK4.out.trans HK5.out).fresh (HK7.out.trans HK8.out.any) (fun p hp e => by have e : p = q := e; have := HQQ.out; have := HK4.out.size; omega)⟩
    rw [HE.out]
    exact ⟨v8, rfl, HS8.out.mono (Nat.le_trans HK4.out.size (Nat.le_trans HK5.out.size HK7.out.size))⟩
theorem check_sl_any (v : Value) (M : List RegS) (w : World) (h : Sl w v M) (hn : M.length ≤ 100000) (hT : Tabs w) :
    Calls Tryd.prog 8 #[v] w fun e w' => e = .returned (.int .i64 (okE M)) ∧ Kept (fun _ => False) w w' := by
  obtain ⟨A, n, c, rfl, h1, h2⟩ := h
  have hl := h1.len
  exact pcheck_any A n c M w h1 (by omega) hT
set_option maxRecDepth 100000 in
set_option maxHeartbeats 4000000 in
theorem keep_no (v : Value) (M : List RegS) (z : Int) (s : ByteArray) (b : Bool) (w : World) (h : Sl w v M) (hn : M.length ≤ 90000) (hss : s.size ≤ 140737488351232) (hno : ¬ (Rs.okB M = true ∧ Rs.Td z ∧ mayB s = true)) (hT : Tabs w) :
    Calls Tryd.prog 25 #[v, .int .i64 z, .string s, .bool b] w fun e w' => e = .returned (.tuple #[.slice none 0 0, .bool false, .int .i64 1]) ∧ Kept (fun _ => False) w w' := by
  have cC := fun W (hk : Kept (fun _ => False) w W) => check_sl_any v M W (h.kept hk) (by omega) (hT.kept hk id id)
  have cT := fun W => told_any z W
  have cK := fun W (hk : Kept (fun _ => False) w W) => check_any s W hss (hT.kept hk id id)
  have hk00 := Lib.hid (Kept.refl (fun _ => False) w)
  unfold okE at cC
  cases hb : Rs.okB M with
  | false =>
    simp only [hb, Bool.false_eq_true, if_false] at cC
    clear h hn hss hno hT hb cT cK
    go_enter Tryd.func25, Tryd.ntmps25
    go_wp2_with (go_at_call 8; refine (cC _ hk00.out).mono ?_; rintro e w2 ⟨rfl, hk2⟩; have HK2 := Lib.hid hk2; clear hk2)
    go_ret3
    exact ⟨rfl, HK2.out⟩
  | true =>
    simp only [hb, if_true] at cC
    by_cases hz : Rs.Td z
    · have hm : ¬ mayB s = true := fun hm => hno ⟨hb, hz, hm⟩
      rw [decide_eq_true hz] at cT
      simp only [if_neg hm] at cK
      clear h hn hss hno hT hb hz hm
      go_enter Tryd.func25, Tryd.ntmps25
      go_wp2_with (first
        | (go_at_call 8; refine (cC _ hk00.out).mono ?_; rintro e w2 ⟨rfl, hk2⟩; have HK2 := Lib.hid hk2; clear hk2)
        | (go_at_call 29; refine (cT _).mono ?_; rintro e w' ⟨rfl, hw⟩; have hw2 := hw.symm; subst hw2)
        | (go_at_call 17; refine (cK _ HK2.out).mono ?_; rintro e w3 ⟨rfl, hk3⟩; have HK3 := Lib.hid (HK2.out.trans hk3); clear hk3))
      go_ret3
      exact ⟨rfl, HK3.out⟩
    · rw [decide_eq_false hz] at cT
      clear h hn hss hno hT hb hz cK
      go_enter Tryd.func25, Tryd.ntmps25
      go_wp2_with (first
        | (go_at_call 8; refine (cC _ hk00.out).mono ?_; rintro e w2 ⟨rfl, hk2⟩; have HK2 := Lib.hid hk2; clear hk2)
        | (go_at_call 29; refine (cT _).mono ?_; rintro e w' ⟨rfl, hw⟩; have hw2 := hw.symm; subst hw2))
      go_ret3
      exact ⟨rfl, HK2.out⟩
theorem yank_no (v : Value) (M : List RegS) (z : Int) (s : ByteArray) (b : Bool) (w : World) (h : Sl w v M) (hn : M.length ≤ 90000) (hss : s.size ≤ 140737488351232) (hno : ¬ (Rs.okB M = true ∧ Rs.Td z ∧ mayB s = true)) (hT : Tabs w) :
    Calls Tryd.prog 13 #[v, .int .i64 z, .string s, .bool b] w fun e w' => e = .returned (.tuple #[.slice none 0 0, .int .i64 1]) ∧ Kept (fun _ => False) w w' := by
  have cK := keep_no v M z s b w h hn hss hno hT
  clear h hn hss hno hT
  go_enter Tryd.func13, Tryd.ntmps13
  go_wp2_with (go_at_call 25; refine cK.mono ?_; rintro e w2 ⟨rfl, hk2⟩; have HK2 := Lib.hid hk2; clear hk2)
  go_ret2
  exact ⟨rfl, HK2.out⟩
set_option maxRecDepth 100000 in
set_option maxHeartbeats 4000000 in
theorem yank_yes (v : Value) (M : List RegS) (z : Int) (s : ByteArray) (b : Bool) (w : World) (h : Sl w v M) (hn : M.length ≤ 90000) (hM : Rs.okB M = true) (hz : Rs.Td z) (hs : mayB s = true) (hT : Tabs w) :
    Calls Tryd.prog 13 #[v, .int .i64 z, .string s, .bool b] w fun e w' => TellOk w' w.heap.size (Rs.ykA M z s b) e ∧ Kept (fun _ => False) w w' := by
  have cK := keep_yes v M z s b w h hn hM hz hs hT
  have hss : s.size ≤ 140737488351232 := by have := mayB_size hs; omega
  have HSS := Lib.hid hss
  have HN := Lib.hid hn
  unfold Rs.ykA
  cases hE : Rs.kpA M z s b with
  | none =>
    rw [hE] at cK
    unfold KeepOk at cK
    simp only at cK
    clear h hn hM hz hs hT hss hE
    go_enter Tryd.func13, Tryd.ntmps13
    go_wp2_with (go_at_call 25; refine cK.mono ?_; rintro e w2 ⟨rfl, hk2⟩; have HK2 := Lib.hid hk2; clear hk2)
    all_goals
      go_ret2
      exact ⟨rfl, HK2.out⟩
  | some x =>
    obtain ⟨X, t⟩ := x
    have HLE := Lib.hid (kpA_le hE)
    rw [hE] at cK
    unfold KeepOk at cK
    simp only [Option.map_some] at cK ⊢
    clear h hn hM hz hs hT hss hE
    cases t
    · go_enter Tryd.func13, Tryd.ntmps13
      go_wp2_with (go_at_call 25; refine cK.mono ?_; rintro e w2 ⟨⟨v2, rfl, hs2⟩, hk2⟩; have HS2 := Lib.hid hs2; have HK2 := Lib.hid hk2; clear hs2 hk2)
      go_ret2
      exact ⟨⟨v2, rfl, HS2.out⟩, HK2.out⟩
    · go_enter Tryd.func13, Tryd.ntmps13
      go_wp2_with (first
        | (go_at_call 25; refine cK.mono ?_; rintro e w2 ⟨⟨v2, rfl, hs2⟩, hk2⟩; have HS2 := Lib.hid hs2; have HK2 := Lib.hid hk2; clear hs2 hk2)
        | (go_at_call 27; refine (set_ow v2 X ⟨48, s, b⟩ _ HS2.out.sl (by have := HN.out; have := HLE.out; omega) HSS.out).mono ?_; rintro e w3 ⟨⟨v3, rfl, hs3⟩, hk3⟩; have HS3 := Lib.hid hs3; have HK3 := Lib.hid (HK2.out.trans hk3); clear hs3 hk3))
      go_ret2
      exact ⟨⟨v3, rfl, HS3.out.mono HK2.out.size⟩, HK3.out⟩
theorem delete_no (v : Value) (M : List RegS) (z : Int) (s : ByteArray) (b : Bool) (w : World) (h : Sl w v M) (hn : M.length ≤ 90000) (hss : s.size ≤ 140737488351232) (hno : ¬ (Rs.okB M = true ∧ Rs.Td z ∧ mayB s = true)) (hT : Tabs w) :
    Calls Tryd.prog 12 #[v, .int .i64 z, .string s, .bool b] w fun e w' => e = .returned (.tuple #[.slice none 0 0, .int .i64 1]) ∧ Kept (fun _ => False) w w' := by
  have cK := keep_no v M z s b w h hn hss hno hT
  clear h hn hss hno hT
  go_enter Tryd.func12, Tryd.ntmps12
  go_wp2_with (go_at_call 25; refine cK.mono ?_; rintro e w2 ⟨rfl, hk2⟩; have HK2 := Lib.hid hk2; clear hk2)
  go_ret2
  exact ⟨rfl, HK2.out⟩
set_option maxRecDepth 100000 in
set_option maxHeartbeats 4000000 in
theorem delete_yes (v : Value) (M : List RegS) (z : Int) (s : ByteArray) (b : Bool) (w : World) (h : Sl w v M) (hn : M.length ≤ 90000) (hM : Rs.okB M = true) (hz : Rs.Td z) (hs : mayB s = true) (hT : Tabs w) :
    Calls Tryd.prog 12 #[v, .int .i64 z, .string s, .bool b] w fun e w' => TellOk w' w.heap.size (Rs.dlA M z s b) e ∧ Kept (fun _ => False) w w' := by
  have cK := keep_yes v M z s b w h hn hM hz hs hT
  have hss : s.size ≤ 140737488351232 := by have := mayB_size hs; omega
  have HSS := Lib.hid hss
  have HN := Lib.hid hn
  have cC := fun W => contains_nl s W
  obtain ⟨C, hC⟩ : ∃ C, s.data.toList.contains 10 = C := ⟨_, rfl⟩
  simp only [hC] at cC
  unfold Rs.dlA
  cases hE : Rs.kpA M z s b with
  | none =>
    rw [hE] at cK
    unfold KeepOk at cK
    simp only at cK
    clear h hn hM hz hs hT hss hE
    go_enter Tryd.func12, Tryd.ntmps12
    go_wp2_with (go_at_call 25; refine cK.mono ?_; rintro e w2 ⟨rfl, hk2⟩; have HK2 := Lib.hid hk2; clear hk2)
    all_goals
      go_ret2
      exact ⟨rfl, HK2.out⟩
  | some x =>
    obtain ⟨X, t⟩ := x
    have HLE := Lib.hid (kpA_le hE)
    rw [hE] at cK
    unfold KeepOk at cK
    simp only [Option.map_some] at cK ⊢
    clear h hn hM hz hs hT hss hE
    cases t
    · go_enter Tryd.func12, Tryd.ntmps12
      go_wp2_with (go_at_call 25; refine cK.mono ?_; rintro e w2 ⟨⟨v2, rfl, hs2⟩, hk2⟩; have HS2 := Lib.hid hs2; have HK2 := Lib.hid hk2; clear hs2 hk2)
      go_ret2
      exact ⟨⟨v2, rfl, HS2.out⟩, HK2.out⟩
    · have HLT := Lib.hid (turn_le X)
      rw [hC]
      clear hC
      cases b
      · cases C
        · go_enter Tryd.func12, Tryd.ntmps12
          go_wp2_with (first
            | (go_at_call 25; refine cK.mono ?_; rintro e w2 ⟨⟨v2, rfl, hs2⟩, hk2⟩; have HS2 := Lib.hid hs2; have HK2 := Lib.hid hk2; clear hs2 hk2)
            | (go_at_call 26; refine (cC _).mono ?_; rintro e w' ⟨rfl, hw⟩; have hw2 := hw.symm; subst hw2)
            | (go_at_call 27; refine (set_ow v2 X ⟨45, s, false⟩ _ HS2.out.sl (by have := HN.out; have := HLE.out; omega) HSS.out).mono ?_; rintro e w3 ⟨⟨v3, rfl, hs3⟩, hk3⟩; have HS3 := Lib.hid hs3; have HK3 := Lib.hid (HK2.out.trans hk3); clear hs3 hk3))
          go_ret2
          exact ⟨⟨v3, rfl, HS3.out.mono HK2.out.size⟩, HK3.out⟩
        · go_enter Tryd.func12, Tryd.ntmps12
          go_wp2_with (first
            | (go_at_call 25; refine cK.mono ?_; rintro e w2 ⟨⟨v2, rfl, hs2⟩, hk2⟩; have HS2 := Lib.hid hs2; have HK2 := Lib.hid hk2; clear hs2 hk2)
            | (go_at_call 26; refine (cC _).mono ?_; rintro e w' ⟨rfl, hw⟩; have hw2 := hw.symm; subst hw2)
            | (go_at_call 28; refine (turn_ow v2 X _ HS2.out.sl (by have := HN.out; have := HLE.out; omega)).mono ?_; rintro e w3 ⟨⟨v3, rfl, hs3⟩, hk3⟩; have HS3 := Lib.hid hs3; have HK3 := Lib.hid (HK2.out.trans hk3); clear hs3 hk3)
            | (go_at_call 27; refine (set_ow v3 (Rs.turn X) ⟨49, s, false⟩ _ HS3.out.sl (by have := HN.out; have := HLE.out; have := HLT.out; omega) HSS.out).mono ?_; rintro e w4 ⟨⟨v4, rfl, hs4⟩, hk4⟩; have HS4 := Lib.hid hs4; have HK4 := Lib.hid (HK3.out.trans hk4); clear hs4 hk4))
          go_ret2
          exact ⟨⟨v4, rfl, HS4.out.mono HK3.out.size⟩, HK4.out⟩
      · go_enter Tryd.func12, Tryd.ntmps12
        go_wp2_with (first
          | (go_at_call 25; refine cK.mono ?_; rintro e w2 ⟨⟨v2, rfl, hs2⟩, hk2⟩; have HS2 := Lib.hid hs2; have HK2 := Lib.hid hk2; clear hs2 hk2)
          | (go_at_call 28; refine (turn_ow v2 X _ HS2.out.sl (by have := HN.out; have := HLE.out; omega)).mono ?_; rintro e w3 ⟨⟨v3, rfl, hs3⟩, hk3⟩; have HS3 := Lib.hid hs3; have HK3 := Lib.hid (HK2.out.trans hk3); clear hs3 hk3)
          | (go_at_call 27; refine (set_ow v3 (Rs.turn X) ⟨49, s, true⟩ _ HS3.out.sl (by have := HN.out; have := HLE.out; have := HLT.out; omega) HSS.out).mono ?_; rintro e w4 ⟨⟨v4, rfl, hs4⟩, hk4⟩; have HS4 := Lib.hid hs4; have HK4 := Lib.hid (HK3.out.trans hk4); clear hs4 hk4))
        go_ret2
        exact ⟨⟨v4, rfl, HS4.out.mono HK3.out.size⟩, HK4.out⟩
end Go.Proofs.YtackgnkajffhiaaDoor
