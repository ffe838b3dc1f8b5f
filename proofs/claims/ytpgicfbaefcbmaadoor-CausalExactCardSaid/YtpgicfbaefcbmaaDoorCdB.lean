/-
  OPS: codec.Bytes: an op's bytes.
-/
import Derived.Test.YtpgicfbaefcbmaaDoorCdM
import Derived.Test.YtpgicfbaefcbmaaDoorCdN
import Derived.Laws.MakeOwn
import Derived.OwnWalk
import Derived.Deep.RegionHeld3
import Derived.Laws.IdiomStrings
set_option linter.unusedVariables false
namespace Go.Proofs.YtpgicfbaefcbmaaDoor
open Go Go.RowKit

/-- Bytes, gathered in a call's own; the op beside them. -/
structure Bh (W0 W : World) (base pb : Nat) (b : OpS) (v : Value) (m : Nat) (bs : List UInt8) : Prop where
  own : W.ownsRow base 5 1 v m (bs.map u8v)
  op : Op9 W ⟨pb, 0, none⟩ b
  seen : Nums W b.A b.n b.o.seen
  kept : Kept (Own base) W0 W
  base : base ≤ W.heap.size
theorem Bh.drew {W0 W : World} {base pb : Nat} {b : OpS} {v : Value} {m : Nat} {bs : List UInt8} (h : Bh W0 W base pb b v m bs) : Bh W0 W.drew base pb b v m bs := ⟨h.own, ⟨h.op.c0, h.op.c1, h.op.c2, h.op.c3, h.op.c4, h.op.c5, h.op.c6, h.op.c7, h.op.c8⟩, h.seen, h.kept.drew, h.base⟩
theorem num_step {W0 W : World} {base pb : Nat} {b : OpS} {v : Value} {m : Nat} {bs : List UInt8} (h : Bh W0 W base pb b v m bs) (hp : pb < base) (hs : ∀ a, b.A = some a → ¬ base ≤ a.block) (wide : Nat) (X x : Int) (hX : X = (wide : Int)) (hx : 0 ≤ x) (hw : wide ≤ 3) (hm : m ≤ 1000) :
    Calls Tryd.prog 40 #[v, .int .i64 X, .int .i64 x] W fun e w' => ∃ v', e = .returned v' ∧ Bh W0 w' base pb b v' (m + wide) (bs ++ Cd.be wide x) := by
  subst hX
  refine (number_any base v m bs wide x W h.own hx hw hm h.base).mono ?_
  rintro e w' ⟨⟨v', rfl, ho⟩, hk⟩
  exact ⟨v', rfl, ho, h.op.kept hk (by show ¬ base ≤ pb; omega), h.seen.kept hk hs, h.kept.trans hk, Nat.le_trans h.base hk.size⟩
theorem own_bytes {w : World} {base : Nat} {v : Value} {n : Nat} {bs : List UInt8} (h : w.ownsRow base 5 1 v n (bs.map u8v)) (hl : bs.length = n) (hn : 1 ≤ n) : ∃ g c, v = .slice (some ⟨g, 0, none⟩) bs.length c ∧ ∀ j (hj : j < bs.length), w.cell? ((⟨g, 0, none⟩ : Addr).add j) = some (.int .u8 ((bs[j]'hj).toNat : Int)) := by
  have hcells : ∀ g, v.ownBlock = some g → ∀ j u, (bs.map u8v)[j]? = some u → w.cell? ((⟨g, 0, none⟩ : Addr).add j) = some u := fun g hg => h.cells hg
  rcases h.2 with ⟨rfl, hx⟩ | ⟨g, cap, cur, rfl, hb, hh, hcap, _, _, _⟩
  · omega
  · subst hl
    refine ⟨g, cap, rfl, fun j hj => hcells g rfl j _ ?_⟩
    rw [List.getElem?_map, List.getElem?_eq_getElem hj]
    rfl
theorem Op9.id1 {w : World} {pb : Nat} {b : OpS} (h : Op9 w ⟨pb, 0, none⟩ b) : w.cell? ⟨pb, 1, none⟩ = some (.int .i64 b.o.t) ∧ w.cell? ⟨pb, 2, none⟩ = some (.int .i64 b.o.si) := ⟨h.c1, h.c2⟩
theorem Op9.id2 {w : World} {pb : Nat} {b : OpS} (h : Op9 w ⟨pb, 0, none⟩ b) : w.cell? ⟨pb, 3, none⟩ = some (.int .i64 b.o.t0) ∧ w.cell? ⟨pb, 4, none⟩ = some (.int .i64 b.o.s0) := ⟨h.c3, h.c4⟩
abbrev noS : ByteArray := ⟨#[]⟩
set_option maxRecDepth 100000 in
set_option maxHeartbeats 8000000 in
theorem pbytes_yes (b : OpS) (w : World) (hb : OpOk w b) (hold : ∀ a, b.A = some a → a.block < w.heap.size) (hT : Tabs w) (ho : Cd.opOk b.o) :
    Calls Tryd.prog 10 #[opV b] w fun e w' => e = .returned (.tuple #[.string (Cd.encB b.o), .int .i64 0]) ∧ Kept (fun _ => False) w w' := by
  have hK0 : Hid (Kept (fun _ => False) w (w.alloc (opO b))) := (Kept.refl _ w).alloc _
  have HO : Hid (Op9 (w.alloc (opO b)) ⟨w.heap.size, 0, none⟩ b) := op9_new
  have HT : Hid (Tabs (w.alloc (opO b))) := hT.kept hK0.out id id
  have HB0 : Hid (OpOk (w.alloc (opO b)) b) := hb.kept hK0.out (fun _ _ => id)
  have hsz : Hid (w.heap.size < (w.alloc (opO b)).heap.size) := by show _ < _; simp
  have HOL : Hid (∀ a, b.A = some a → a.block < w.heap.size) := hold
  have hn4 : b.n = 4 := by rw [← hb.seen.1]; exact ho.2.2.2.1.1
  have HO4 := Lib.hid ho
  obtain ⟨⟨ht, hs⟩, hst, hnn, ⟨hl, hx⟩, hk⟩ := ho
  have hk2 : 0 ≤ b.o.kd ∧ 0 ≤ b.o.t0 ∧ 0 ≤ b.o.s0 ∧ 0 ≤ b.o.rn := by
    rcases hk with ⟨e, ⟨r1, r2, _⟩, ⟨e1, e2⟩ | ⟨⟨i1, i2⟩, _⟩⟩ | ⟨e, e1, e2, e3⟩ <;> omega
  obtain ⟨k1, k2, k3, k4⟩ := hk2
  have k5 : 0 ≤ b.o.t := by omega
  have k6 : 0 ≤ b.o.si := by omega
  have k7 : 0 ≤ b.o.st := by omega
  have k8 : 0 ≤ b.o.nn := by omega
  have HX := Lib.hid hx
  have HLN := Lib.hid hl
  have HN4 := Lib.hid hn4
  clear hT hb hold ht hs hst hnn hl hx hk hn4
  obtain ⟨i0, hi, hz0, hz1, hz2⟩ := info_parts info_u8
  unfold opV
  go_enter Tryd.func10, Tryd.ntmps10
  simp only [opO] at *
  go_upto_region 1 with fail
  generalize w.alloc (.cells #[.int .i64 b.o.kd, .int .i64 b.o.t, .int .i64 b.o.si, .int .i64 b.o.t0, .int .i64 b.o.s0, .int .i64 b.o.rn, .int .i64 b.o.st, .int .i64 b.o.nn, .slice b.A b.n b.c] 32) = w1 at *
  generalize hpb : w.heap.size = pb at *
  have HPB := Lib.hid hpb
  clear hpb
  obtain ⟨c0, c1, c2, c3, c4, c5, c6, c7, c8⟩ := HO.out.cs
  have cM := may_any b w1 HB0.out HT.out
  rw [if_pos HO4.out] at cM
  unfold opV at cM
  go_upto_region 4 with (go_at_call 39; refine cM.mono ?_; rintro e w2 ⟨rfl, hk2⟩; have HK2 := Lib.hid hk2; clear hk2)
  clear cM
  have hlt2 : pb < w2.heap.size := Nat.lt_of_lt_of_le hsz.out HK2.out.size
  go_upto_region 5 with (at_make; refine wpList_make_own _ rfl _ _ 39 rfl w2.heap.size 5 i0 (.int .u8 0) 1 Tryd.underlying39 hi hz0 hz1 .i64 .i64 _ 21 rfl rfl (by omega) (by rw [hz2]; omega) (by unfold maxLen; omega) (Nat.le_refl _) ?_; intro w5 hown hgrow)
  have hseen2 := (HB0.out.kept HK2.out (fun _ _ => id)).seen
  have hHS : ∀ a, b.A = some a → ¬ w2.heap.size ≤ a.block := fun a ha => by have := HOL.out a ha; have := HPB.out; omega
  have HQ5 : Hid (Kept (fun _ => False) w1 w5) := HK2.out.grown hgrow
  have HB5 : Hid (Bh w2 w5 w2.heap.size pb b _ 0 []) := ⟨by simpa using hown, HO.out.kept HQ5.out id, HB0.out.seen.kept HQ5.out (fun _ _ => id), (Kept.refl _ w2).grown hgrow, ((Kept.refl (fun _ => False) w2).grown hgrow).size⟩
  clear hown hgrow hseen2 c0 c1 c2 c3 c4 c5 c6 c7 c8
  generalize hbase : w2.heap.size = base at *
  have HBS := Lib.hid hbase
  have HHS := Lib.hid hHS
  have HLT := Lib.hid hlt2
  clear hHS hlt2 hbase
  obtain ⟨c0, c1, c2, c3, c4, c5, c6, c7, c8⟩ := HB5.out.op.cs
  go_upto_region 6 with (go_at_call 40; refine (num_step HB5.out HLT.out HHS.out 1 1 _ rfl k1 (by omega) (by omega)).mono ?_; rintro e w6 ⟨v6, rfl, hb6⟩; have HB6 := Lib.hid hb6; clear hb6)
  clear HB5 c0 c1 c2 c3 c4 c5 c6 c7 c8
  have HD6 := Lib.hid HB6.out.drew
  have K6 := HD6.out.op.id1
  obtain ⟨c1, c2⟩ := HB6.out.op.id1
  go_region_held3 (fun w' => w'.cell? ⟨pb, 1, none⟩ = some (.int .i64 b.o.t) ∧ w'.cell? ⟨pb, 2, none⟩ = some (.int .i64 b.o.si)) (first | with_reducible exact K8 | with_reducible exact K7 | with_reducible exact K6)
    (first
      | (go_at_call 40; refine (num_step HD6.out HLT.out HHS.out 2 2 _ rfl k5 (by omega) (by omega)).mono ?_; clear HD6; rintro e w7 ⟨v7, rfl, hb7⟩; have HB7 := Lib.hid hb7; have K7 := hb7.op.id1; clear hb7)
      | (go_at_call 40; refine (num_step HB7.out HLT.out HHS.out 1 1 _ rfl k6 (by omega) (by omega)).mono ?_; rintro e w8 ⟨v8, rfl, hb8⟩; have HB8 := Lib.hid hb8; have K8 := hb8.op.id1; clear hb8))
  go_upto_region 7 with fail
  clear K6 K7 K8 c1 c2 HB6 HB7
  have HD8 := Lib.hid HB8.out.drew
  have K8 := HD8.out.op.id2
  obtain ⟨c1, c2⟩ := HB8.out.op.id2
  go_region_held3 (fun w' => w'.cell? ⟨pb, 3, none⟩ = some (.int .i64 b.o.t0) ∧ w'.cell? ⟨pb, 4, none⟩ = some (.int .i64 b.o.s0)) (first | with_reducible exact K10 | with_reducible exact K9 | with_reducible exact K8)
    (first
      | (go_at_call 40; refine (num_step HD8.out HLT.out HHS.out 2 2 _ rfl k2 (by omega) (by omega)).mono ?_; clear HD8; rintro e w9 ⟨v9, rfl, hb9⟩; have HB9 := Lib.hid hb9; have K9 := hb9.op.id2; clear hb9)
      | (go_at_call 40; refine (num_step HB9.out HLT.out HHS.out 1 1 _ rfl k3 (by omega) (by omega)).mono ?_; rintro e w10 ⟨v10, rfl, hb10⟩; have HB10 := Lib.hid hb10; have K10 := hb10.op.id2; clear hb10))
  go_upto_region 8 with fail
  clear K8 K9 K10 c1 c2 HB8 HB9
  obtain ⟨c0, c1, c2, c3, c4, c5, c6, c7, c8⟩ := HB10.out.op.cs
  go_upto_region 9 with (go_at_call 40; refine (num_step HB10.out HLT.out HHS.out 3 3 _ rfl k4 (by omega) (by omega)).mono ?_; rintro e w11 ⟨v11, rfl, hb11⟩; have HB11 := Lib.hid hb11; clear hb11)
  clear HB10 c0 c1 c2 c3 c4 c5 c6 c7 c8
  obtain ⟨c0, c1, c2, c3, c4, c5, c6, c7, c8⟩ := HB11.out.op.cs
  go_upto_region 10 with (go_at_call 40; refine (num_step HB11.out HLT.out HHS.out 1 1 _ rfl k7 (by omega) (by omega)).mono ?_; rintro e w12 ⟨v12, rfl, hb12⟩; have HB12 := Lib.hid hb12; clear hb12)
  clear HB11 c0 c1 c2 c3 c4 c5 c6 c7 c8
  obtain ⟨c0, c1, c2, c3, c4, c5, c6, c7, c8⟩ := HB12.out.op.cs
  go_upto_region 11 with (go_at_call 40; refine (num_step HB12.out HLT.out HHS.out 2 2 _ rfl k8 (by omega) (by omega)).mono ?_; rintro e w13 ⟨v13, rfl, hb13⟩; have HB13 := Lib.hid hb13; clear hb13)
  clear HB12 c0 c1 c2 c3 c4 c5 c6 c7 c8
  obtain ⟨c0, c1, c2, c3, c4, c5, c6, c7, c8⟩ := HB13.out.op.cs
  go_wp2_with fail
  go_loopw [5, 51] (fun v i wr => ∃ k : Nat, k ≤ b.n ∧ i = .int .i64 k ∧ Bh w2 wr base pb b v (13 + 2 * k) (Cd.encH b.o ++ Cd.encS (b.o.seen.take k))) (fun _ i _ => b.n - (intOf i).toNat)
  case atStart => exact ⟨0, Nat.zero_le _, rfl, by rw [List.take_zero, show Cd.encS [] = [] from rfl, List.append_nil]; exact HB13.out⟩
  case round =>
    obtain ⟨k, hk, rfl, hb⟩ := hrel
    have HB := Lib.hid hb
    clear hb c0 c1 c2 c3 c4 c5 c6 c7 c8
    have hn4 := HN4.out
    generalize hn : b.n = n at *
    by_cases hkn : k < n
    · obtain ⟨ad, x, ha, hx, hc⟩ := HB.out.seen.cell (by rw [hn]; exact hkn)
      rw [ha] at *
      have hx0 := (HX.out x (List.mem_of_getElem? hx)).1
      have b1 : decide (k < n) = true := decide_eq_true hkn
      have b2 : decide ((k : Int) < (n : Int)) = true := decide_eq_true (by omega)
      have t1 : (0 : Int) ≤ (k : Int) := by omega
      have t2 : (k : Int) < (n : Int) := by omega
      have HX2 := Lib.hid hx
      have hk4 : k ≤ 4 := by omega
      have HN := Lib.hid hn
      clear hx hn hn4
      go_wp2_with (go_at_call 40; refine (num_step HB.out HLT.out HHS.out 2 2 _ rfl hx0 (by omega) (by omega)).mono ?_; rintro e w14 ⟨v14, rfl, hb14⟩; have HB14 := Lib.hid hb14; clear hb14)
      go_roundw
      case rel =>
        refine ⟨k + 1, by omega, by go_num, ?_⟩
        rw [List.take_add_one, HX2.out, show ∀ y : Int, (some y).toList = [y] from fun _ => rfl, Cd.encS_snoc, ← List.append_assoc]
        exact HB14.out
      case measure => simp [intOf] <;> omega
    · obtain rfl : k = n := by omega
      have b1 : decide (k < k) = false := decide_eq_false (by omega)
      have b2 : decide ((k : Int) < (k : Int)) = false := decide_eq_false (by omega)
      have hb := HB.out
      rw [List.take_of_length_le (by rw [HLN.out]; omega)] at hb
      have he : Cd.encH b.o ++ Cd.encS b.o.seen = Cd.enc b.o := rfl
      rw [he] at hb
      obtain ⟨g, c, rfl, hcells⟩ := own_bytes hb.own (by rw [Cd.enc_len HLN.out]; omega) (by omega)
      have hcv := run_convert_bytes_back (P := Tryd.prog) wr 39 9 5 ⟨g, 0, none⟩ c (Cd.enc b.o) Tryd.underlying39 Tryd.underlying5 Tryd.underlying9 hcells
      have HF : Hid (Kept (fun _ => False) w wr) := (hK0.out.trans HK2.out).fresh hb.kept (fun q hq h => by
        have h : base ≤ q := h
        have := HPB.out
        have := HLT.out
        omega)
      clear hb hcells he hn hn4
      go_wp2_with fail
      exact bodyPost_ret (v := .tuple #[.string (Cd.encB b.o), .int .i64 0]) (by simp [results, Tryd.results10, go_sem, Cd.encB]) rfl ⟨rfl, HF.out⟩
set_option maxRecDepth 100000 in
set_option maxHeartbeats 1000000 in
theorem pbytes_no (b : OpS) (w : World) (hb : OpOk w b) (hT : Tabs w) (ho : ¬ Cd.opOk b.o) :
    Calls Tryd.prog 10 #[opV b] w fun e w' => e = .returned (.tuple #[.string noS, .int .i64 1]) ∧ Kept (fun _ => False) w w' := by
  have hK0 : Hid (Kept (fun _ => False) w (w.alloc (opO b))) := (Kept.refl _ w).alloc _
  have HO : Hid (Op9 (w.alloc (opO b)) ⟨w.heap.size, 0, none⟩ b) := op9_new
  have HT : Hid (Tabs (w.alloc (opO b))) := hT.kept hK0.out id id
  have HB0 : Hid (OpOk (w.alloc (opO b)) b) := hb.kept hK0.out (fun _ _ => id)
  have HO4 := Lib.hid ho
  clear hT hb ho
  unfold opV
  go_enter Tryd.func10, Tryd.ntmps10
  simp only [opO] at *
  go_upto_region 1 with fail
  generalize w.alloc (.cells #[.int .i64 b.o.kd, .int .i64 b.o.t, .int .i64 b.o.si, .int .i64 b.o.t0, .int .i64 b.o.s0, .int .i64 b.o.rn, .int .i64 b.o.st, .int .i64 b.o.nn, .slice b.A b.n b.c] 32) = w1 at *
  generalize hpb : w.heap.size = pb at *
  clear hpb
  obtain ⟨c0, c1, c2, c3, c4, c5, c6, c7, c8⟩ := HO.out.cs
  have cM := may_any b w1 HB0.out HT.out
  rw [if_neg HO4.out] at cM
  unfold opV at cM
  go_wp2_with (go_at_call 39; refine cM.mono ?_; rintro e w2 ⟨rfl, hk2⟩; have HK2 := Lib.hid hk2; clear hk2)
  exact bodyPost_ret (v := .tuple #[.string noS, .int .i64 1]) (by simp [results, Tryd.results10, go_sem]) rfl ⟨rfl, hK0.out.trans HK2.out⟩
end Go.Proofs.YtpgicfbaefcbmaaDoor
