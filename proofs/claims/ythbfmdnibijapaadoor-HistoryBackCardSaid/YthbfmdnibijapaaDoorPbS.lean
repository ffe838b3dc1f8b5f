/-
  THE PROGRAM's split AND Apply, of a patch that may be.
-/
import Derived.Test.YthbfmdnibijapaaDoorPbO
set_option linter.unusedVariables false
namespace Go.Proofs.YthbfmdnibijapaaDoor
open Go Go.RowKit

set_option maxRecDepth 100000 in
set_option maxHeartbeats 2000000 in
theorem psplit_yes (t x : List Int) (a d : Nat) (w : World) (hT : Tabs w) (hv : Vld t) (hm : mayB (runesBytes t) = true) (had : a + d ≤ t.length) (hvx : Vld x) (h0 : (0 : Int) ∉ x) (hxl : (runesBytes x).size ≤ 4000) :
    Calls Tryd.prog 66 #[.string (runesBytes t), patV a d (runesBytes x)] w fun e w' => e = .returned (.tuple #[.string (runesBytes (t.take a)), .string (runesBytes ((t.drop a).take d)), .string (runesBytes (t.drop (a + d))), .int .i64 0]) ∧ Kept (fun _ => False) w w' := by
  have hsz := mayB_size hm
  have hlen : t.length ≤ 4000 := by
    have h1 := rs_len (runesBytes t)
    rw [rs_txt hv] at h1
    omega
  have hka : Kept (fun _ => False) w (w.alloc (patO a d (runesBytes x))) := (Kept.refl _ w).alloc _
  have HG : Hid ((w.alloc (patO a d (runesBytes x))).heap[w.heap.size]? = some (patO a d (runesBytes x))) := heap_alloc_new w _
  have cL := plen_yes (runesBytes t) (w.alloc (patO a d (runesBytes x))) (hT.kept hka id id) hm
  rw [rs_txt hv] at cL
  have cV := fun W hW => valid_any (runesBytes x) W (by omega) hW
  have hval : Lib.validD (runesBytes x).data.toList = true := by rw [txt_list]; exact Utf.valid_bytes x hvx
  rw [hval] at cV
  have cZ := fun W => pcontains_no (runesBytes x) W (by rw [txt_list]; exact bytes_zero hvx h0)
  have cA := fun W => pbyteOf_yes t a W hv hsz (by omega)
  have hvd : Vld (t.drop a) := hv.sub fun r hr => List.mem_of_mem_drop hr
  have hszd : (runesBytes (t.drop a)).size ≤ 4000 := by
    rw [txt_size] at hsz ⊢
    have := bytes_sub (List.drop_sublist a t)
    omega
  have cD := fun W => pbyteOf_yes (t.drop a) d W hvd hszd (by rw [List.length_drop]; omega)
  have hb1 := bpos_le t a
  have hb2 := bpos_le t (a + d)
  have hb3 := bpos_add t a d
  have p1 := piece_low (t := t) (a := a)
  have p2 := piece_high (t := t) (a := a)
  have p3 := piece_mid (t := t) (a := a) (d := d)
  have p4 := piece_high (t := t) (a := a + d)
  generalize bpos t a = L at *
  generalize bpos t (a + d) = R at *
  generalize bpos (t.drop a) d = D at *
  generalize runesBytes (t.drop (a + d)) = S3 at *
  generalize runesBytes ((t.drop a).take d) = S2 at *
  generalize runesBytes (t.drop a) = SD at *
  generalize runesBytes (t.take a) = S1 at *
  generalize runesBytes t = s at *
  generalize runesBytes x = PX at *
  have s1 : ∀ u : World, (Instr.slice 9 (.string s) (some (.int .i64 (L : Nat))) none none).run Tryd.prog u = .ok (.string SD) u := fun u => by
    rw [run_slice_string_l (P := Tryd.prog) u 9 s Tryd.underlying9 .i64 (L : Nat) (by omega) (by omega), Int.toNat_natCast, p2]
  have s2 : ∀ u : World, (Instr.slice 9 (.string s) none (some (.int .i64 (L : Nat))) none).run Tryd.prog u = .ok (.string S1) u := fun u => by
    rw [run_slice_string_h (P := Tryd.prog) u 9 s Tryd.underlying9 .i64 (L : Nat) (by omega) (by omega), Int.toNat_natCast, p1]
  have s3 : ∀ u : World, (Instr.slice 9 (.string s) (some (.int .i64 (L : Nat))) (some (.int .i64 ((L : Int) + (D : Int)))) none).run Tryd.prog u = .ok (.string S2) u := fun u => by
    rw [run_slice_string (P := Tryd.prog) u 9 s .i64 .i64 (L : Nat) ((L : Int) + (D : Int)) Tryd.underlying9 (by omega) (by omega) (by omega), Int.toNat_natCast, show ((L : Int) + (D : Int)).toNat = R by omega, p3]
  have s4 : ∀ u : World, (Instr.slice 9 (.string s) (some (.int .i64 ((L : Int) + (D : Int)))) none none).run Tryd.prog u = .ok (.string S3) u := fun u => by
    rw [run_slice_string_l (P := Tryd.prog) u 9 s Tryd.underlying9 .i64 ((L : Int) + (D : Int)) (by omega) (by omega), show ((L : Int) + (D : Int)).toNat = R by omega, p4]
  have HT0 := Lib.hid (hT.kept hka id id)
  have HKA := Lib.hid hka
  have HV := Lib.hid cV
  have HZ := Lib.hid cZ
  have HA := Lib.hid cA
  have HD := Lib.hid cD
  clear hT hm hka cV cZ cA cD p1 p2 p3 p4 hv hvd hvx h0 hval
  generalize t.length = n at *
  obtain ⟨g, hg⟩ : ∃ g, w.heap.size = g := ⟨_, rfl⟩
  have e1 : decide ((a : Int) < 0) = false := decide_eq_false (by omega)
  have e2 : decide ((n : Int) < (a : Int)) = false := decide_eq_false (by omega)
  have e2' : decide (n < a) = false := decide_eq_false (by omega)
  have e3 : decide ((d : Int) < 0) = false := decide_eq_false (by omega)
  have e4 : decide ((n : Int) - (a : Int) < (d : Int)) = false := decide_eq_false (by omega)
  have hw1 : IntKind.i64.wrap ((n : Int) - (a : Int)) = (n : Int) - (a : Int) := IntWalk.i64_in _ ⟨by omega, by omega⟩
  have hw2 : IntKind.i64.wrap ((L : Int) + (D : Int)) = (L : Int) + (D : Int) := IntWalk.i64_in _ ⟨by omega, by omega⟩
  go_enter Tryd.func66, Tryd.ntmps66
  go_wp2_with fail
  simp only [hg] at HG ⊢
  generalize w.alloc (patO a d PX) = wa at *
  refine cL.mono ?_
  rintro e w1 ⟨rfl, hk1⟩
  have HK1 := Lib.hid (HKA.out.trans hk1)
  have HT1 := Lib.hid (HT0.out.kept hk1 id id)
  have HG1 := Lib.hid ((hk1.block g (heap_lt HG.out) id).trans HG.out)
  clear hk1 cL
  obtain ⟨q0, q1, q2⟩ := pat_cells HG1.out
  go_wp2_with fail
  refine (HV.out w1 HT1.out).mono ?_
  rintro e w2 ⟨rfl, hk2⟩
  have HK2 := Lib.hid (HK1.out.trans hk2)
  have HG2 := Lib.hid ((hk2.block g (heap_lt HG1.out) id).trans HG1.out)
  clear hk2 q0 q1 q2
  obtain ⟨q0, q1, q2⟩ := pat_cells HG2.out
  go_wp2_with (go_at_call 78; refine (HZ.out _).mono ?_; rintro e w' ⟨rfl, hw⟩; have hwx := hw.symm; subst hwx)
  refine (HA.out _).mono ?_
  rintro e w3 ⟨rfl, hk3⟩
  have HK3 := Lib.hid (HK2.out.trans hk3)
  have HG3 := Lib.hid ((hk3.block g (heap_lt HG2.out) id).trans HG2.out)
  clear hk3 q0 q1 q2
  obtain ⟨q0, q1, q2⟩ := pat_cells HG3.out
  go_upto_region 9 with fail
  have K1 : w3.drew.cell? ⟨g, 1, none⟩ = some (.int .i64 d) := q1
  go_cut [10] from 55 to 62 (fun v wx => v = .int .i64 ((L : Int) + (D : Int)) ∧ Kept (fun _ => False) w3 wx)
  case first =>
    go_region_held3 (fun (w' : World) => w'.cell? ⟨g, 1, none⟩ = some (.int .i64 d)) (first | with_reducible exact K2 | with_reducible exact K1)
      ((go_at_call 79; refine (HD.out _).mono ?_; rintro e w4 ⟨rfl, hk4⟩; have K2 : w4.cell? ⟨g, 1, none⟩ = some (.int .i64 d) := cell_kept hk4 K1 id))
    all_goals
      go_wp2_with fail
      go_meet
      exact ⟨rfl, (Kept.refl (fun _ => False) w3).drew.trans hk4⟩
  case rest =>
    obtain ⟨rfl, hk4⟩ := hcut
    have HK4 := Lib.hid (HK3.out.trans hk4)
    clear hk4 K1 q0 q1 q2
    go_upto_region 10 with fail
    go_quiet (fail)
    go_wp2
    exact bodyPost_ret (v := .tuple #[.string S1, .string S2, .string S3, .int .i64 0]) (by simp [results, Tryd.results66, go_sem]) rfl ⟨rfl, HK4.out.drewN _⟩
set_option maxRecDepth 100000 in
set_option maxHeartbeats 2000000 in
theorem papply_yes (t x : List Int) (a d : Nat) (w : World) (hT : Tabs w) (hv : Vld t) (hm : mayB (runesBytes t) = true) (had : a + d ≤ t.length) (hvx : Vld x) (h0 : (0 : Int) ∉ x) (hr : (runesBytes (t.take a ++ x ++ t.drop (a + d))).size ≤ 4000) :
    Calls Tryd.prog 53 #[.string (runesBytes t), patV a d (runesBytes x)] w fun e w' => e = .returned (.tuple #[.string (runesBytes (t.take a ++ x ++ t.drop (a + d))), .int .i64 0]) ∧ Kept (fun _ => False) w w' := by
  have hsz := mayB_size hm
  have hka : Kept (fun _ => False) w (w.alloc (patO a d (runesBytes x))) := (Kept.refl _ w).alloc _
  have HG : Hid ((w.alloc (patO a d (runesBytes x))).heap[w.heap.size]? = some (patO a d (runesBytes x))) := heap_alloc_new w _
  have hlx : (runesBytes x).size ≤ 4000 := by
    rw [txt_size] at hr ⊢
    rw [Utf.bytes_append, Utf.bytes_append, List.length_append, List.length_append] at hr
    omega
  have hle : (runesBytes x).size + (runesBytes t).size ≤ 4000 + (runesBytes ((t.drop a).take d)).size := by
    have e := congrArg (fun l => (Utf.bytes l).length) (show t = t.take a ++ (t.drop a).take d ++ t.drop (a + d) by
      rw [List.append_assoc, ← List.drop_drop, List.take_append_drop, List.take_append_drop])
    simp only [Utf.bytes_append, List.length_append] at e
    rw [txt_size] at hr
    rw [Utf.bytes_append, Utf.bytes_append, List.length_append, List.length_append] at hr
    rw [txt_size, txt_size, txt_size, e]
    omega
  have hlg : (runesBytes ((t.drop a).take d)).size ≤ 4000 := by
    rw [txt_size] at hsz ⊢
    have := bytes_sub (((List.take_sublist d (t.drop a)).trans (List.drop_sublist a t)))
    omega
  have cS := psplit_yes t x a d (w.alloc (patO a d (runesBytes x))) (hT.kept hka id id) hv hm had hvx h0 hlx
  have cJ := fun W => join3_any (t.take a) x (t.drop (a + d)) W (by omega)
  generalize runesBytes (t.take a ++ x ++ t.drop (a + d)) = RES at *
  generalize runesBytes (t.drop (a + d)) = S3 at *
  generalize runesBytes ((t.drop a).take d) = S2 at *
  generalize runesBytes (t.take a) = S1 at *
  generalize runesBytes t = s at *
  generalize runesBytes x = PX at *
  have HKA := Lib.hid hka
  have HJ := Lib.hid cJ
  clear hT hka hm hv hvx h0 cJ
  obtain ⟨g, hg⟩ : ∃ g, w.heap.size = g := ⟨_, rfl⟩
  have hw1 : IntKind.i64.wrap (4000 - (s.size : Int)) = 4000 - (s.size : Int) := IntWalk.i64_in _ ⟨by omega, by omega⟩
  have hw2 : IntKind.i64.wrap (4000 - (s.size : Int) + (S2.size : Int)) = 4000 - (s.size : Int) + (S2.size : Int) := IntWalk.i64_in _ ⟨by omega, by omega⟩
  have e1 : decide (4000 - (s.size : Int) + (S2.size : Int) < (PX.size : Int)) = false := decide_eq_false (by omega)
  go_enter Tryd.func53, Tryd.ntmps53
  go_wp2_with fail
  simp only [hg] at HG ⊢
  generalize w.alloc (patO a d PX) = wa at *
  refine cS.mono ?_
  rintro e w1 ⟨rfl, hk1⟩
  have HK1 := Lib.hid (HKA.out.trans hk1)
  have HG1 := Lib.hid ((hk1.block g (heap_lt HG.out) id).trans HG.out)
  clear hk1 cS
  obtain ⟨q0, q1, q2⟩ := pat_cells HG1.out
  go_wp2_with (go_at_call 67; refine (HJ.out _).mono ?_; rintro e w2 ⟨rfl, hk2⟩)
  exact bodyPost_ret (v := .tuple #[.string RES, .int .i64 0]) (by simp [results, Tryd.results53, go_sem]) rfl ⟨rfl, HK1.out.trans hk2⟩
end Go.Proofs.YthbfmdnibijapaaDoor
