/-
  OPS: their bytes, as the reference tells them.
-/
import Derived.Test.YtpgicfbaefcbmaaDoorCdE
import Derived.Test.YtpgicfbaefcbmaaDoorCfO
set_option linter.unusedVariables false
namespace Go.Proofs.YtpgicfbaefcbmaaDoor
open Go Go.RowKit

/-- A number's bytes, as a text. -/
def ns (m : Nat) (x : Int) : ByteArray := ⟨(Cd.be m x).toArray⟩
/-- A row of bytes that is written from its end on. -/
def rw8 (m r : Nat) (x : Int) : Array Value := (List.replicate (m - r) (Value.int .u8 0) ++ (Cd.be r x).map u8v).toArray
theorem made8 {m : Nat} : madeCells (Value.cells (.int .u8 0)) (m * 1) = rw8 m 0 0 := by
  apply Array.ext_getElem?
  intro j
  unfold rw8
  rw [Cd.be, List.map_nil, List.append_nil, Nat.sub_zero]
  by_cases h : j < m
  · simp [madeCells, Value.cells, h, Nat.mod_one]
  · simp [madeCells, Value.cells, h]
theorem make_bytes (m : Nat) (w : World) (h : m ≤ 3) (h1 : 1 ≤ m) : (Instr.makeSlice 39 (.int .i64 m) (.int .i64 m)).run Tryd.prog w = .ok (.slice (some ⟨w.heap.size, 0, none⟩) m m) (w.alloc (.cells (rw8 m 0 0) 5)) := by
  obtain ⟨i0, hi, hz0, hz1, hz2⟩ := info_parts info_u8
  have hr := run_make (P := Tryd.prog) w 39 5 i0 _ Tryd.underlying39 hi hz0 .i64 .i64 m m (by omega) (by omega) (by rw [hz2]; omega) (by omega)
  rw [hz1] at hr
  simp only [Int.toNat_natCast] at hr
  rw [made8] at hr
  exact hr
theorem rw8_set {m r : Nat} {x : Int} (h : r < m) : (rw8 m r x).setIfInBounds (m - 1 - r) (u8v (Cd.by1 x r)) = rw8 m (r + 1) x := by
  apply Array.toList_inj.1
  unfold rw8
  rw [Array.toList_setIfInBounds]
  simp only [Cd.be, List.map_cons]
  rw [List.set_append, if_pos (by rw [List.length_replicate]; omega)]
  obtain ⟨q, hq⟩ : ∃ q, m - r = q + 1 := ⟨m - r - 1, by omega⟩
  rw [hq, show m - 1 - r = q by omega, show m - (r + 1) = q by omega, List.replicate_succ']
  rw [List.set_append_right _ _ (by rw [List.length_replicate]; exact Nat.le_refl _)]
  simp
theorem rw8_cell {m r j : Nat} {x : Int} (h : r < m) (hj : j = m - 1 - r) : (rw8 m r x)[j]? = some (.int .u8 0) := by
  subst hj
  unfold rw8
  simp only [List.getElem?_toArray]
  rw [List.getElem?_append_left (by rw [List.length_replicate]; omega), List.getElem?_replicate, if_pos (by omega)]
theorem div_pow (x : Int) (r : Nat) : x / (256 : Int) ^ r / 256 = x / (256 : Int) ^ (r + 1) := by
  rw [Int.ediv_ediv_of_nonneg (Int.pow_nonneg (by omega)), Int.pow_succ]
theorem byte_r (x : Int) (r : Nat) : Value.int .u8 (x / (256 : Int) ^ r % 256) = u8v (Cd.by1 x r) := by
  unfold u8v
  rw [Cd.by1_toNat]
set_option maxRecDepth 100000 in
set_option maxHeartbeats 1000000 in
theorem rnumber_any (x : Int) (m : Nat) (X : Int) (w : World) (hX : X = (m : Int)) (hx : 0 ≤ x) (h : m ≤ 3) (h1 : 1 ≤ m) :
    Calls Tryd.prog 45 #[.int .i64 x, .int .i64 X] w fun e w' => e = .returned (.string (ns m x)) ∧ Kept (fun _ => False) w w' := by
  subst hX
  have hmk := make_bytes m w h h1
  have hg := heap_alloc_new w (.cells (rw8 m 0 0) 5)
  have hK0 : Hid (Kept (fun _ => False) w (w.alloc (.cells (rw8 m 0 0) 5))) := (Kept.refl _ w).alloc _
  have hlt : Hid (w.heap.size < (w.alloc (.cells (rw8 m 0 0) 5)).heap.size) := by show _ < _; simp
  generalize w.alloc (.cells (rw8 m 0 0) 5) = w1 at *
  obtain ⟨g, hgg⟩ : ∃ g, w.heap.size = g := ⟨_, rfl⟩
  have HGG := Lib.hid hgg
  rw [hgg] at hg hmk hlt
  have HG := Lib.hid hg
  clear hg hgg
  have ew : IntKind.i64.wrap ((m : Int) - 1) = (m : Int) - 1 := IntWalk.i64_in _ ⟨by omega, by omega⟩
  go_enter Tryd.func45, Tryd.ntmps45
  go_wp2_with fail
  clear hmk
  go_loopw [0, 6] (fun v i wr => ∃ r : Nat, r ≤ m ∧ v = .int .i64 (x / (256 : Int) ^ r) ∧ i = .int .i64 ((m : Int) - 1 - r) ∧ wr.heap[g]? = some (.cells (rw8 m r x) 5 (0, 0)) ∧ Kept (fun k => k = g) w1 wr) (fun _ i _ => (intOf i + 1).toNat)
  case atStart => exact ⟨0, Nat.zero_le _, by rw [Int.pow_zero, Int.ediv_one], by simp, HG.out, Kept.refl _ _⟩
  case round =>
    obtain ⟨r, hr, rfl, rfl, hh, hkept⟩ := hrel
    have HK := Lib.hid hkept
    have HHH := Lib.hid hh
    by_cases hrm : r < m
    · obtain ⟨j, hj⟩ : ∃ j, m - 1 - r = j := ⟨_, rfl⟩
      have ej : (m : Int) - 1 - (r : Int) = (j : Int) := by omega
      rw [ej]
      have b1 : decide ((0 : Int) ≤ (j : Int)) = true := decide_eq_true (by omega)
      have t1 : (0 : Int) ≤ (j : Int) := by omega
      have t2 : (j : Int) < (m : Int) := by omega
      have f0 : wr.cell? ⟨g, j, none⟩ = some (.int .u8 0) := (cell_of_row _ _ _ _ _ _ hh).trans (rw8_cell hrm hj.symm)
      have f1 : wr.frozen? ⟨g, j, none⟩ = false := frozen_of hh
      have hd := div_pow x r
      have HD := Lib.hid hd
      have hs := rw8_set (x := x) hrm
      rw [hj, ← byte_r] at hs
      have HS := Lib.hid hs
      have HJ := Lib.hid ej
      clear hd hs hj hh hkept ej
      generalize hP : (256 : Int) ^ r = P at *
      have HP := Lib.hid hP
      clear hP
      go_wp2_with fail
      go_roundw
      case rel => exact ⟨r + 1, by omega, by rw [← HD.out], by have := HJ.out; go_num, by rw [← HS.out]; exact heap_set HHH.out _, HK.out.setCell (p := ⟨g, j, none⟩) rfl _⟩
      case measure => simp [intOf]
    · obtain rfl : r = m := by omega
      have b1 : decide ((0 : Int) ≤ (r : Int) - 1 - (r : Int)) = false := decide_eq_false (by omega)
      have hcells : ∀ j (hj : j < (Cd.be r x).length), wr.cell? ((⟨g, 0, none⟩ : Addr).add j) = some (.int .u8 (((Cd.be r x)[j]'hj).toNat : Int)) := by
        intro j hj
        rw [addr_add, Nat.zero_add, cell_of_row _ _ _ _ _ _ hh]
        unfold rw8
        simp only [List.getElem?_toArray]
        rw [Nat.sub_self, List.replicate_zero, List.nil_append, List.getElem?_map, List.getElem?_eq_getElem hj]
        rfl
      have hcv := run_convert_bytes_back (P := Tryd.prog) wr 39 9 5 ⟨g, 0, none⟩ r (Cd.be r x) Tryd.underlying39 Tryd.underlying5 Tryd.underlying9 hcells
      rw [Cd.be_len] at hcv
      have HF : Hid (Kept (fun _ => False) w wr) := hK0.out.fresh hkept (fun q hq e => by have e : q = g := e; have := HGG.out; omega)
      clear hcells hh hkept HHH HK
      go_wp2_with fail
      go_ret
      exact ⟨rfl, HF.out⟩
theorem ns_list (m : Nat) (x : Int) : (ns m x).data.toList = Cd.be m x := by simp [ns]
theorem ns_size (m : Nat) (x : Int) : (ns m x).size = m := by rw [← ba_len, ns_list, Cd.be_len]
theorem app_list (a b : ByteArray) : (a ++ b).data.toList = a.data.toList ++ b.data.toList := by simp
/-- The head of an op's bytes, as a text. -/
def hdB (o : Cd.OpP) : ByteArray := ns 1 o.kd ++ ns 2 o.t ++ ns 1 o.si ++ ns 2 o.t0 ++ ns 1 o.s0 ++ ns 3 o.rn ++ ns 1 o.st ++ ns 2 o.nn
theorem hdB_list (o : Cd.OpP) : (hdB o).data.toList = Cd.encH o := by
  unfold hdB Cd.encH
  simp only [app_list, ns_list]
/-- What Bytes holds while it goes. -/
structure BrS (W0 w : World) (pb : Nat) (b : OpS) : Prop where
  op : Op9 w ⟨pb, 0, none⟩ b
  seen : Nums w b.A b.n b.o.seen
  kept : Kept (fun _ => False) W0 w
theorem BrS.keep {W0 w w' : World} {pb : Nat} {b : OpS} (h : BrS W0 w pb b) (hk : Kept (fun _ => False) w w') : BrS W0 w' pb b := ⟨h.op.kept hk id, h.seen.kept hk (fun _ _ => id), h.kept.trans hk⟩
theorem rnum_step {W0 w : World} {pb : Nat} {b : OpS} (h : BrS W0 w pb b) (x : Int) (m : Nat) (X : Int) (hX : X = (m : Int)) (hx : 0 ≤ x) (hm : m ≤ 3) (h1 : 1 ≤ m) :
    Calls Tryd.prog 45 #[.int .i64 x, .int .i64 X] w fun e w' => e = .returned (.string (ns m x)) ∧ BrS W0 w' pb b := by
  refine (rnumber_any x m X w hX hx hm h1).mono ?_
  rintro e w' ⟨rfl, hk⟩
  exact ⟨rfl, h.keep hk⟩
theorem BrS.c8 {W0 w : World} {pb : Nat} {b : OpS} (h : BrS W0 w pb b) : w.cell? ⟨pb, 0, none⟩ = some (.int .i64 b.o.kd) ∧ w.cell? ⟨pb, 1, none⟩ = some (.int .i64 b.o.t) ∧ w.cell? ⟨pb, 2, none⟩ = some (.int .i64 b.o.si) ∧ w.cell? ⟨pb, 3, none⟩ = some (.int .i64 b.o.t0) ∧
    w.cell? ⟨pb, 4, none⟩ = some (.int .i64 b.o.s0) ∧ w.cell? ⟨pb, 5, none⟩ = some (.int .i64 b.o.rn) ∧ w.cell? ⟨pb, 6, none⟩ = some (.int .i64 b.o.st) ∧ w.cell? ⟨pb, 7, none⟩ = some (.int .i64 b.o.nn) :=
  ⟨h.op.c0, h.op.c1, h.op.c2, h.op.c3, h.op.c4, h.op.c5, h.op.c6, h.op.c7⟩
set_option maxRecDepth 100000 in
set_option maxHeartbeats 8000000 in
theorem rbytes_any (b : OpS) (w : World) (hb : OpOk w b) (ho : Cd.opOk b.o) :
    Calls Tryd.prog 12 #[opV b] w fun e w' => e = .returned (.string (Cd.encB b.o)) ∧ Kept (fun _ => False) w w' := by
  have hK0 : Kept (fun _ => False) w (w.alloc (opO b)) := (Kept.refl _ w).alloc _
  have hB1 : BrS w (w.alloc (opO b)) w.heap.size b := ⟨op9_new, hb.seen.kept hK0 (fun _ _ => id), hK0⟩
  have HB1 := Lib.hid hB1
  have hn := hb.n
  obtain ⟨⟨ht, hs⟩, hst, hnn, ⟨hl, hx⟩, hk⟩ := ho
  have hk2 : 0 ≤ b.o.kd ∧ 0 ≤ b.o.t0 ∧ 0 ≤ b.o.s0 ∧ 0 ≤ b.o.rn := by
    rcases hk with ⟨e, ⟨r1, r2, _⟩, ⟨e1, e2⟩ | ⟨⟨i1, i2⟩, _⟩⟩ | ⟨e, e1, e2, e3⟩ <;> omega
  obtain ⟨k1, k2, k3, k4⟩ := hk2
  have k5 : 0 ≤ b.o.t := by omega
  have k6 : 0 ≤ b.o.si := by omega
  have k7 : 0 ≤ b.o.st := by omega
  have k8 : 0 ≤ b.o.nn := by omega
  have HX := Lib.hid hx
  have HLN := Lib.hid hl
  have HN4 : Hid (b.n = 4) := by show _ = _; rw [← hb.seen.1]; exact hl
  clear hb ht hs hst hnn hl hx hk hK0 hB1 hn
  unfold opV
  go_enter Tryd.func12, Tryd.ntmps12
  simp only [opO] at *
  go_upto_region 1 with fail
  generalize w.alloc (.cells #[.int .i64 b.o.kd, .int .i64 b.o.t, .int .i64 b.o.si, .int .i64 b.o.t0, .int .i64 b.o.s0, .int .i64 b.o.rn, .int .i64 b.o.st, .int .i64 b.o.nn, .slice b.A b.n b.c] 32) = w1 at *
  generalize w.heap.size = pb at *
  have HD := Lib.hid (HB1.out.keep ((Kept.refl (fun _ => False) w1).drew))
  have K1 := HD.out.c8
  clear HB1
  go_cut [3] from 5 to 39 (fun v wx => v = .string (hdB b.o) ∧ BrS w wx pb b)
  case first =>
    refine wp_region_noPanic ?_
    refine wp_region_held_drew (S := fun (w' : World) => w'.cell? ⟨pb, 0, none⟩ = some (.int .i64 b.o.kd) ∧ w'.cell? ⟨pb, 1, none⟩ = some (.int .i64 b.o.t) ∧ w'.cell? ⟨pb, 2, none⟩ = some (.int .i64 b.o.si) ∧ w'.cell? ⟨pb, 3, none⟩ = some (.int .i64 b.o.t0) ∧ w'.cell? ⟨pb, 4, none⟩ = some (.int .i64 b.o.s0) ∧ w'.cell? ⟨pb, 5, none⟩ = some (.int .i64 b.o.rn) ∧ w'.cell? ⟨pb, 6, none⟩ = some (.int .i64 b.o.st) ∧ w'.cell? ⟨pb, 7, none⟩ = some (.int .i64 b.o.nn)) (by kernel_rfl) K1 (fun hHeld => ?_)
    refine wpAnyH_take (i := 0) (oi := _) (v := .pointer (some ⟨pb, 0, none⟩)) rfl (by kernel_rfl) (by kernel_rfl) (by kernel_rfl) (fun _ _ _ h => h) (Or.inl ⟨by rfl, fun w hSw => by go_simp⟩) (by assumption) ?_
    refine wpAnyH_take (i := 1) (oi := _) (v := .int .i64 b.o.kd) rfl (by kernel_rfl) (by kernel_rfl) (by kernel_rfl) (fun _ _ _ h => h) (Or.inl ⟨by rfl, fun w hSw => by go_simp⟩) (by assumption) ?_
    refine wpAnyH_take (i := 3) (oi := _) (v := .pointer (some ⟨pb, 1, none⟩)) rfl (by kernel_rfl) (by kernel_rfl) (by kernel_rfl) (fun _ _ _ h => h) (Or.inl ⟨by rfl, fun w hSw => by go_simp⟩) (by assumption) ?_
    refine wpAnyH_take (i := 4) (oi := _) (v := .pointer (some ⟨pb, 1, none⟩)) rfl (by kernel_rfl) (by kernel_rfl) (by kernel_rfl) (fun _ _ _ h => h) (Or.inl ⟨by rfl, fun w hSw => by go_simp⟩) (by assumption) ?_
    refine wpAnyH_take (i := 5) (oi := _) (v := .int .i64 b.o.t) rfl (by kernel_rfl) (by kernel_rfl) (by kernel_rfl) (fun _ _ _ h => h) (Or.inl ⟨by rfl, fun w hSw => by go_simp⟩) (by assumption) ?_
    refine wpAnyH_take (i := 8) (oi := _) (v := .pointer (some ⟨pb, 1, none⟩)) rfl (by kernel_rfl) (by kernel_rfl) (by kernel_rfl) (fun _ _ _ h => h) (Or.inl ⟨by rfl, fun w hSw => by go_simp⟩) (by assumption) ?_
    refine wpAnyH_take (i := 9) (oi := _) (v := .pointer (some ⟨pb, 2, none⟩)) rfl (by kernel_rfl) (by kernel_rfl) (by kernel_rfl) (fun _ _ _ h => h) (Or.inl ⟨by rfl, fun w hSw => by go_simp⟩) (by assumption) ?_
    refine wpAnyH_take (i := 10) (oi := _) (v := .int .i64 b.o.si) rfl (by kernel_rfl) (by kernel_rfl) (by kernel_rfl) (fun _ _ _ h => h) (Or.inl ⟨by rfl, fun w hSw => by go_simp⟩) (by assumption) ?_
    refine wpAnyH_take (i := 13) (oi := _) (v := .pointer (some ⟨pb, 3, none⟩)) rfl (by kernel_rfl) (by kernel_rfl) (by kernel_rfl) (fun _ _ _ h => h) (Or.inl ⟨by rfl, fun w hSw => by go_simp⟩) (by assumption) ?_
    refine wpAnyH_take (i := 14) (oi := _) (v := .pointer (some ⟨pb, 3, none⟩)) rfl (by kernel_rfl) (by kernel_rfl) (by kernel_rfl) (fun _ _ _ h => h) (Or.inl ⟨by rfl, fun w hSw => by go_simp⟩) (by assumption) ?_
    refine wpAnyH_take (i := 15) (oi := _) (v := .int .i64 b.o.t0) rfl (by kernel_rfl) (by kernel_rfl) (by kernel_rfl) (fun _ _ _ h => h) (Or.inl ⟨by rfl, fun w hSw => by go_simp⟩) (by assumption) ?_
    refine wpAnyH_take (i := 18) (oi := _) (v := .pointer (some ⟨pb, 3, none⟩)) rfl (by kernel_rfl) (by kernel_rfl) (by kernel_rfl) (fun _ _ _ h => h) (Or.inl ⟨by rfl, fun w hSw => by go_simp⟩) (by assumption) ?_
    refine wpAnyH_take (i := 19) (oi := _) (v := .pointer (some ⟨pb, 4, none⟩)) rfl (by kernel_rfl) (by kernel_rfl) (by kernel_rfl) (fun _ _ _ h => h) (Or.inl ⟨by rfl, fun w hSw => by go_simp⟩) (by assumption) ?_
    refine wpAnyH_take (i := 20) (oi := _) (v := .int .i64 b.o.s0) rfl (by kernel_rfl) (by kernel_rfl) (by kernel_rfl) (fun _ _ _ h => h) (Or.inl ⟨by rfl, fun w hSw => by go_simp⟩) (by assumption) ?_
    refine wpAnyH_take (i := 23) (oi := _) (v := .pointer (some ⟨pb, 5, none⟩)) rfl (by kernel_rfl) (by kernel_rfl) (by kernel_rfl) (fun _ _ _ h => h) (Or.inl ⟨by rfl, fun w hSw => by go_simp⟩) (by assumption) ?_
    refine wpAnyH_take (i := 24) (oi := _) (v := .int .i64 b.o.rn) rfl (by kernel_rfl) (by kernel_rfl) (by kernel_rfl) (fun _ _ _ h => h) (Or.inl ⟨by rfl, fun w hSw => by go_simp⟩) (by assumption) ?_
    refine wpAnyH_take (i := 27) (oi := _) (v := .pointer (some ⟨pb, 6, none⟩)) rfl (by kernel_rfl) (by kernel_rfl) (by kernel_rfl) (fun _ _ _ h => h) (Or.inl ⟨by rfl, fun w hSw => by go_simp⟩) (by assumption) ?_
    refine wpAnyH_take (i := 28) (oi := _) (v := .int .i64 b.o.st) rfl (by kernel_rfl) (by kernel_rfl) (by kernel_rfl) (fun _ _ _ h => h) (Or.inl ⟨by rfl, fun w hSw => by go_simp⟩) (by assumption) ?_
    refine wpAnyH_take (i := 31) (oi := _) (v := .pointer (some ⟨pb, 7, none⟩)) rfl (by kernel_rfl) (by kernel_rfl) (by kernel_rfl) (fun _ _ _ h => h) (Or.inl ⟨by rfl, fun w hSw => by go_simp⟩) (by assumption) ?_
    refine wpAnyH_take (i := 32) (oi := _) (v := .int .i64 b.o.nn) rfl (by kernel_rfl) (by kernel_rfl) (by kernel_rfl) (fun _ _ _ h => h) (Or.inl ⟨by rfl, fun w hSw => by go_simp⟩) (by assumption) ?_
    refine wpAnyH_ready (rs := [2]) (by kernel_rfl) (by simp) ?_
    refine AllReadyH.cons rfl (fun K hK => ?_) AllReadyH.nil
    go_simp
    refine (rnum_step HD.out b.o.kd 1 1 rfl k1 (by omega) (by omega)).mono ?_
    clear HD
    rintro e w2 ⟨rfl, h2⟩
    have H2 := Lib.hid h2
    refine hK.out _ _ h2.c8 (fun hHeld2 => ?_)
    clear hK K h2
    refine wpAnyH_ready (rs := [6]) (by kernel_rfl) (by simp) ?_
    refine AllReadyH.cons rfl (fun K hK => ?_) AllReadyH.nil
    go_simp
    refine (rnum_step H2.out b.o.t 2 2 rfl k5 (by omega) (by omega)).mono ?_
    clear H2
    rintro e w3 ⟨rfl, h3⟩
    have H3 := Lib.hid h3
    refine hK.out _ _ h3.c8 (fun hHeld3 => ?_)
    clear hK K h3
    refine wpAnyH_take (i := 7) (oi := _) (v := .string (ns 1 b.o.kd ++ ns 2 b.o.t)) rfl (by kernel_rfl) (by kernel_rfl) (by kernel_rfl) (fun _ _ _ h => h) (Or.inl ⟨by rfl, fun w hSw => by go_simp; simp only [ns_size]; omega⟩) (by assumption) ?_
    refine wpAnyH_ready (rs := [11]) (by kernel_rfl) (by simp) ?_
    refine AllReadyH.cons rfl (fun K hK => ?_) AllReadyH.nil
    go_simp
    refine (rnum_step H3.out b.o.si 1 1 rfl k6 (by omega) (by omega)).mono ?_
    clear H3
    rintro e w4 ⟨rfl, h4⟩
    have H4 := Lib.hid h4
    refine hK.out _ _ h4.c8 (fun hHeld4 => ?_)
    clear hK K h4
    refine wpAnyH_take (i := 12) (oi := _) (v := .string (ns 1 b.o.kd ++ ns 2 b.o.t ++ ns 1 b.o.si)) rfl (by kernel_rfl) (by kernel_rfl) (by kernel_rfl) (fun _ _ _ h => h) (Or.inl ⟨by rfl, fun w hSw => by go_simp; simp only [ns_size]; omega⟩) (by assumption) ?_
    refine wpAnyH_ready (rs := [16]) (by kernel_rfl) (by simp) ?_
    refine AllReadyH.cons rfl (fun K hK => ?_) AllReadyH.nil
    go_simp
    refine (rnum_step H4.out b.o.t0 2 2 rfl k2 (by omega) (by omega)).mono ?_
    clear H4
    rintro e w5 ⟨rfl, h5⟩
    have H5 := Lib.hid h5
    refine hK.out _ _ h5.c8 (fun hHeld5 => ?_)
    clear hK K h5
    refine wpAnyH_take (i := 17) (oi := _) (v := .string (ns 1 b.o.kd ++ ns 2 b.o.t ++ ns 1 b.o.si ++ ns 2 b.o.t0)) rfl (by kernel_rfl) (by kernel_rfl) (by kernel_rfl) (fun _ _ _ h => h) (Or.inl ⟨by rfl, fun w hSw => by go_simp; simp only [ns_size]; omega⟩) (by assumption) ?_
    refine wpAnyH_ready (rs := [21]) (by kernel_rfl) (by simp) ?_
    refine AllReadyH.cons rfl (fun K hK => ?_) AllReadyH.nil
    go_simp
    refine (rnum_step H5.out b.o.s0 1 1 rfl k3 (by omega) (by omega)).mono ?_
    clear H5
    rintro e w6 ⟨rfl, h6⟩
    have H6 := Lib.hid h6
    refine hK.out _ _ h6.c8 (fun hHeld6 => ?_)
    clear hK K h6
    refine wpAnyH_take (i := 22) (oi := _) (v := .string (ns 1 b.o.kd ++ ns 2 b.o.t ++ ns 1 b.o.si ++ ns 2 b.o.t0 ++ ns 1 b.o.s0)) rfl (by kernel_rfl) (by kernel_rfl) (by kernel_rfl) (fun _ _ _ h => h) (Or.inl ⟨by rfl, fun w hSw => by go_simp; simp only [ns_size]; omega⟩) (by assumption) ?_
    refine wpAnyH_ready (rs := [25]) (by kernel_rfl) (by simp) ?_
    refine AllReadyH.cons rfl (fun K hK => ?_) AllReadyH.nil
    go_simp
    refine (rnum_step H6.out b.o.rn 3 3 rfl k4 (by omega) (by omega)).mono ?_
    clear H6
    rintro e w7 ⟨rfl, h7⟩
    have H7 := Lib.hid h7
    refine hK.out _ _ h7.c8 (fun hHeld7 => ?_)
    clear hK K h7
    refine wpAnyH_take (i := 26) (oi := _) (v := .string (ns 1 b.o.kd ++ ns 2 b.o.t ++ ns 1 b.o.si ++ ns 2 b.o.t0 ++ ns 1 b.o.s0 ++ ns 3 b.o.rn)) rfl (by kernel_rfl) (by kernel_rfl) (by kernel_rfl) (fun _ _ _ h => h) (Or.inl ⟨by rfl, fun w hSw => by go_simp; simp only [ns_size]; omega⟩) (by assumption) ?_
    refine wpAnyH_ready (rs := [29]) (by kernel_rfl) (by simp) ?_
    refine AllReadyH.cons rfl (fun K hK => ?_) AllReadyH.nil
    go_simp
    refine (rnum_step H7.out b.o.st 1 1 rfl k7 (by omega) (by omega)).mono ?_
    clear H7
    rintro e w8 ⟨rfl, h8⟩
    have H8 := Lib.hid h8
    refine hK.out _ _ h8.c8 (fun hHeld8 => ?_)
    clear hK K h8
    refine wpAnyH_take (i := 30) (oi := _) (v := .string (ns 1 b.o.kd ++ ns 2 b.o.t ++ ns 1 b.o.si ++ ns 2 b.o.t0 ++ ns 1 b.o.s0 ++ ns 3 b.o.rn ++ ns 1 b.o.st)) rfl (by kernel_rfl) (by kernel_rfl) (by kernel_rfl) (fun _ _ _ h => h) (Or.inl ⟨by rfl, fun w hSw => by go_simp; simp only [ns_size]; omega⟩) (by assumption) ?_
    refine wpAnyH_ready (rs := [33]) (by kernel_rfl) (by simp) ?_
    refine AllReadyH.cons rfl (fun K hK => ?_) AllReadyH.nil
    go_simp
    refine (rnum_step H8.out b.o.nn 2 2 rfl k8 (by omega) (by omega)).mono ?_
    clear H8
    rintro e w9 ⟨rfl, h9⟩
    have H9 := Lib.hid h9
    refine hK.out _ _ h9.c8 (fun hHeld9 => ?_)
    clear hK K h9
    refine wpAnyH_take (i := 34) (oi := _) (v := .string (ns 1 b.o.kd ++ ns 2 b.o.t ++ ns 1 b.o.si ++ ns 2 b.o.t0 ++ ns 1 b.o.s0 ++ ns 3 b.o.rn ++ ns 1 b.o.st ++ ns 2 b.o.nn)) rfl (by kernel_rfl) (by kernel_rfl) (by kernel_rfl) (fun _ _ _ h => h) (Or.inl ⟨by rfl, fun w hSw => by go_simp; simp only [ns_size]; omega⟩) (by assumption) ?_
    refine wpAnyH_take (i := 35) (oi := _) (v := .string (ns 1 b.o.kd ++ ns 2 b.o.t ++ ns 1 b.o.si ++ ns 2 b.o.t0 ++ ns 1 b.o.s0 ++ ns 3 b.o.rn ++ ns 1 b.o.st ++ ns 2 b.o.nn)) rfl (by kernel_rfl) (by kernel_rfl) (by kernel_rfl) (fun _ _ _ h => h) (Or.inl ⟨by rfl, fun w hSw => by go_simp⟩) (by assumption) ?_
    refine wpAnyH_done (by kernel_rfl) ?_ _
    refine NoPanic.normal ?_
    simp only [List.getElem_toArray, List.getElem_cons_succ, List.getElem_cons_zero, Act.put, List.setIfInBounds_toArray, List.set_cons_zero, List.set_cons_succ]
    go_wp2_with fail
    go_meet
    exact ⟨rfl, H9.out⟩
  case rest =>
    obtain ⟨rfl, hbr⟩ := hcut
    have HBR := Lib.hid hbr
    clear hbr K1 HD
    have hh := hdB_list b.o
    have HH := Lib.hid hh
    clear hh
    generalize hdB b.o = hd at *
    go_wp2_with fail
    go_loopw [3, 4] (fun v i wr => ∃ (k : Nat) (S : ByteArray), k ≤ b.n ∧ i = .int .i64 k ∧ v = .string S ∧ S.data.toList = Cd.encH b.o ++ Cd.encS (b.o.seen.take k) ∧ BrS w wr pb b) (fun _ i _ => b.n - (intOf i).toNat)
    case atStart => exact ⟨0, hd, Nat.zero_le _, rfl, rfl, by rw [HH.out]; simp [Cd.encS], HBR.out⟩
    case round =>
      obtain ⟨k, S, hk, rfl, rfl, hS, hbr⟩ := hrel
      have HB := Lib.hid hbr
      have HS := Lib.hid hS
      have hn4 := HN4.out
      clear hbr hS
      obtain ⟨c0, c1, c2, c3, c4, c5, c6, c7, c8⟩ := HB.out.op.cs
      generalize hn : b.n = n at *
      by_cases hkn : k < n
      · obtain ⟨ad, x, ha, hx, hc⟩ := HB.out.seen.cell (by rw [hn]; exact hkn)
        rw [ha] at c8
        clear ha
        have hx0 := (HX.out x (List.mem_of_getElem? hx)).1
        have hsz : S.size ≤ 100 := by
          rw [← ba_len, HS.out, List.length_append, Cd.encH_len, Cd.encS_len, List.length_take, HLN.out]
          omega
        have hns := ns_size 2 x
        have hk4 : k ≤ 4 := by omega
        have b1 : decide (k < n) = true := decide_eq_true hkn
        have b2 : decide ((k : Int) < (n : Int)) = true := decide_eq_true (by omega)
        have t1 : (0 : Int) ≤ (k : Int) := by omega
        have t2 : (k : Int) < (n : Int) := by omega
        have HX2 := Lib.hid hx
        have HN := Lib.hid hn
        clear hx hn hn4
        go_wp2_with (go_at_call 45; refine (rnum_step HB.out x 2 2 rfl hx0 (by omega) (by omega)).mono ?_; rintro e w14 ⟨rfl, hb14⟩; have HB14 := Lib.hid hb14; clear hb14)
        go_roundw
        case rel =>
          refine ⟨k + 1, _, by have := HN.out; omega, by go_num, rfl, ?_, HB14.out⟩
          rw [app_list, ns_list, HS.out, List.take_add_one, HX2.out, show ∀ y : Int, (some y).toList = [y] from fun _ => rfl, Cd.encS_snoc, ← List.append_assoc]
        case measure =>
          have := HN.out
          simp [intOf]
          omega
      · obtain rfl : k = n := by omega
        have b1 : decide (k < k) = false := decide_eq_false (by omega)
        have b2 : decide ((k : Int) < (k : Int)) = false := decide_eq_false (by omega)
        have hS2 := HS.out
        rw [List.take_of_length_le (by rw [HLN.out]; omega)] at hS2
        have HE : Hid (S = Cd.encB b.o) := Cd.ba_ext (by rw [hS2, Cd.encB_list]; rfl)
        clear hS2 hn hn4
        go_wp2_with fail
        go_ret
        rw [HE.out]
        exact ⟨rfl, HB.out.kept⟩
end Go.Proofs.YtpgicfbaefcbmaaDoor
