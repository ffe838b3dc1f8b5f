/-
  OPS: the law CodecBack.
-/
import Derived.Test.YtpgicfbaefcbmaaDoorCdE
set_option linter.unusedVariables false
namespace Go.Proofs.YtpgicfbaefcbmaaDoor
open Go Go.RowKit

/-- What a law's loops hold of every world. -/
structure HeldA (w : World) (pb : Nat) (p : AskM) : Prop where
  pb : PAs w pb p
  ok : AskMOk w p
  tabs : Tabs w
theorem HeldA.kept {w w' : World} {pb : Nat} {p : AskM} (h : HeldA w pb p) (hk : Kept (fun _ => False) w w') : HeldA w' pb p := ⟨h.pb.kept hk id, h.ok.kept hk, h.tabs.kept hk id id⟩
theorem num25_at {x : Int} {w : World} : Calls Tryd.prog 13 #[.int .i64 x] w fun e w' => e = .returned (.int .i64 x) ∧ w' = w := num25_any x w
/-- The head of a text, cut off. -/
theorem cut_size (s : ByteArray) (q : Nat) (h : q ≤ s.size) : (s.extract 0 q).size = q := by
  rw [ByteArray.size_extract]
  omega
theorem k19 {w' : World} {pb ob m mc k : Nat} {ad : Addr} {b b' : OpS} (h0 : w'.cell? ⟨pb, 0, none⟩ = some (.slice (some ad) m mc)) (h : Op9 w' ⟨ob, 0, none⟩ b') (g : Op9 w' (ad.add (k * 9)) b) :
    w'.cell? ⟨pb, 0, none⟩ = some (.slice (some ad) m mc) ∧ w'.cell? ⟨ob, 0, none⟩ = some (.int .i64 b'.o.kd) ∧ w'.cell? ⟨ob, 1, none⟩ = some (.int .i64 b'.o.t) ∧ w'.cell? ⟨ob, 2, none⟩ = some (.int .i64 b'.o.si) ∧ w'.cell? ⟨ob, 3, none⟩ = some (.int .i64 b'.o.t0) ∧ w'.cell? ⟨ob, 4, none⟩ = some (.int .i64 b'.o.s0) ∧ w'.cell? ⟨ob, 5, none⟩ = some (.int .i64 b'.o.rn) ∧ w'.cell? ⟨ob, 6, none⟩ = some (.int .i64 b'.o.st) ∧ w'.cell? ⟨ob, 7, none⟩ = some (.int .i64 b'.o.nn) ∧ w'.cell? ⟨ob, 8, none⟩ = some (.slice b'.A b'.n b'.c) ∧ w'.cell? (ad.add (k * 9)) = some (.int .i64 b.o.kd) ∧ w'.cell? ⟨(ad.add (k * 9)).block, (ad.add (k * 9)).off + 1, none⟩ = some (.int .i64 b.o.t) ∧ w'.cell? ⟨(ad.add (k * 9)).block, (ad.add (k * 9)).off + 2, none⟩ = some (.int .i64 b.o.si) ∧ w'.cell? ⟨(ad.add (k * 9)).block, (ad.add (k * 9)).off + 3, none⟩ = some (.int .i64 b.o.t0) ∧ w'.cell? ⟨(ad.add (k * 9)).block, (ad.add (k * 9)).off + 4, none⟩ = some (.int .i64 b.o.s0) ∧ w'.cell? ⟨(ad.add (k * 9)).block, (ad.add (k * 9)).off + 5, none⟩ = some (.int .i64 b.o.rn) ∧ w'.cell? ⟨(ad.add (k * 9)).block, (ad.add (k * 9)).off + 6, none⟩ = some (.int .i64 b.o.st) ∧ w'.cell? ⟨(ad.add (k * 9)).block, (ad.add (k * 9)).off + 7, none⟩ = some (.int .i64 b.o.nn) ∧ w'.cell? ⟨(ad.add (k * 9)).block, (ad.add (k * 9)).off + 8, none⟩ = some (.slice b.A b.n b.c) :=
  ⟨h0, h.c0, h.c1, h.c2, h.c3, h.c4, h.c5, h.c6, h.c7, h.c8, g.c0, g.c1, g.c2, g.c3, g.c4, g.c5, g.c6, g.c7, g.c8⟩
theorem ptake_good (s : ByteArray) (w : World) (h : s.size = 21) (hd : Cd.opOk (Cd.dec s.data.toList)) (hT : Tabs w) :
    Calls Tryd.prog 15 #[.string s] w fun e w' => (∃ b : OpS, b.o = Cd.dec s.data.toList ∧ e = .returned (.tuple #[opV b, .int .i64 0]) ∧ OpOk w' b) ∧ Kept (fun _ => False) w w' := by
  refine (ptake_any s w h hT).mono ?_
  rintro e w' ⟨hr, hk⟩
  refine ⟨?_, hk⟩
  rcases hr with ⟨_, b, h1, h2, h3, _⟩ | ⟨h, _⟩
  · exact ⟨b, h1, h2, h3⟩
  · exact absurd hd h
theorem ptake_bad (s : ByteArray) (w : World) (hs : s.size ≤ 140737488351232) (hd : ¬ (s.size = 21 ∧ Cd.opOk (Cd.dec s.data.toList))) (hT : Tabs w) :
    Calls Tryd.prog 15 #[.string s] w fun e w' => e = .returned (.tuple #[.agg zOp, .int .i64 9]) ∧ Kept (fun _ => False) w w' := by
  by_cases h : s.size = 21
  · refine (ptake_any s w h hT).mono ?_
    rintro e w' ⟨hr, hk⟩
    refine ⟨?_, hk⟩
    rcases hr with ⟨h1, _⟩ | ⟨_, h2⟩
    · exact absurd ⟨h, h1⟩ hd
    · exact h2
  · exact ptake_len s w hs h
theorem enc_of_dec {s : ByteArray} {o : Cd.OpP} (h : s.size = 21) (ho : o = Cd.dec s.data.toList) : Cd.encB o = s :=
  Cd.ba_ext (by rw [Cd.encB_list, ho, Cd.enc_dec (by rw [ba_len]; exact h)])
set_option maxRecDepth 100000 in
set_option maxHeartbeats 8000000 in
theorem codecBack_any (p : AskM) (w : World) (h : AskMOk w p) (hT : Tabs w) : Calls Tryd.prog 4 #[.agg p.cells] w fun e w' => e = .returned (.bool true) ∧ Kept (fun _ => False) w w' := by
  have hK0 : Hid (Kept (fun _ => False) w (w.alloc (.cells p.cells 25))) := (Kept.refl _ w).alloc _
  have hP0 : PAs (w.alloc (.cells p.cells 25)) w.heap.size p := heap_alloc_new w _
  have HH : Hid (HeldA (w.alloc (.cells p.cells 25)) w.heap.size p) := ⟨hP0, h.kept hK0.out, hT.kept hK0.out id id⟩
  clear h hT hP0
  obtain ⟨O, m, mc, ops, X, n, nc, ss⟩ := p
  unfold AskM.cells at *
  simp only at *
  go_enter Tryd.func4, Tryd.ntmps4
  go_upto_region 1 with fail
  generalize hpb : w.heap.size = pb at *
  clear hpb
  generalize w.alloc (.cells #[.slice O m mc, .slice X n nc] 25) = w1 at *
  have p0 : w1.cell? ⟨pb, 0, none⟩ = some (.slice O m mc) := HH.out.pb.c 0
  have p1 : w1.cell? ⟨pb, 1, none⟩ = some (.slice X n nc) := HH.out.pb.c 1
  have cH := heavy25_any _ w1 HH.out.ok
  unfold AskM.cells at cH
  simp only at cH
  go_wp2_with (go_at_call 7; refine cH.mono ?_; rintro e w2 ⟨⟨B, rfl, _⟩, hk2⟩; have HK2 := Lib.hid (hK0.out.trans hk2); have HH2 := Lib.hid (HH.out.kept hk2); clear hk2 cH HH p0 p1; cases B)
  · go_loopw [3] (fun v wr => ∃ k : Nat, k ≤ 8 ∧ k ≤ m ∧ v = .int .i64 k ∧ HeldA wr pb ⟨O, m, mc, ops, X, n, nc, ss⟩ ∧ Kept (fun _ => False) w wr) (fun v _ => 8 - (intOf v).toNat)
    case atStart => exact ⟨0, Nat.zero_le _, Nat.zero_le _, rfl, HH2.out, HK2.out⟩
    case round =>
      obtain ⟨k, hk8, hkm, rfl, hh, hkept⟩ := hrel
      have HH3 := Lib.hid hh
      have HK3 := Lib.hid hkept
      clear hh hkept HH2 HK2
      have p0 : wr.cell? ⟨pb, 0, none⟩ = some (.slice O m mc) := HH3.out.pb.c 0
      by_cases hc : k < m ∧ k < 8
      · obtain ⟨hc1, hc2⟩ := hc
        have b1 : decide (k < m) = true := decide_eq_true hc1
        have b2 : decide ((k : Int) < (m : Int)) = true := decide_eq_true (by omega)
        have b3 : decide (k < 8) = true := decide_eq_true hc2
        have b4 : decide ((k : Int) < 8) = true := decide_eq_true (by omega)
        have t1 : (0 : Int) ≤ (k : Int) := by omega
        have t2 : (k : Int) < (m : Int) := by omega
        obtain ⟨ad, b, rfl, hb, h9, hok⟩ := HH3.out.ok.ops.at_ hc1
        have H9 := Lib.hid h9
        have HOK := Lib.hid hok
        have c0 := h9.c0
        have c1 := h9.c1
        have c2 := h9.c2
        have c3 := h9.c3
        have c4 := h9.c4
        have c5 := h9.c5
        have c6 := h9.c6
        have c7 := h9.c7
        have c8 := h9.c8
        clear hb h9 hok
        by_cases ho : Cd.opOk b.o
        · have cB := pbytes_ok b wr HOK.out HH3.out.tabs ho
          unfold opV at cB
          have HS : Hid ((Cd.encB b.o).size = 21) := Cd.encB_size ho.2.2.2.1.1
          have cT := fun W (h : Tabs W) => ptake_enc ho W h
          unfold opV at cT
          generalize Cd.encB b.o = S at *
          go_upto_region 7 with (go_at_call 10; refine cB.mono ?_; rintro e w4 ⟨rfl, hk4⟩; have HK4 := Lib.hid hk4; clear hk4)
          clear cB c0 c1 c2 c3 c4 c5 c6 c7 c8
          have hT4 := HH3.out.tabs.kept HK4.out id id
          go_upto_region 9 with (first | (go_at_call 13; refine (num25_any _ _).mono ?_; rintro e w' ⟨rfl, hw⟩; have hw2 := hw.symm; subst hw2) | (go_at_call 15; refine (cT _ hT4).mono ?_; rintro e w5 ⟨⟨b', ho', rfl, hok', _⟩, hk5⟩; have HK5 := Lib.hid hk5; have HOK5 := Lib.hid hok'; have HO5 := Lib.hid ho'; clear hk5 hok' ho'))
          have hk6 : Kept (fun _ => False) w5 (w5.alloc (opO b')) := (Kept.refl _ _).alloc _
          have h9b := op9_new (w := w5) (b := b')
          have hka := HK4.out.trans (HK5.out.trans hk6)
          have h9a := H9.out.kept hka id
          have hoka := HOK.out.kept hka (fun _ _ => id)
          have hokb := HOK5.out.kept hk6 (fun _ _ => id)
          simp only [opO] at hk6 h9b hka h9a hoka hokb
          clear cT hT4
          generalize w5.alloc (.cells #[.int .i64 b'.o.kd, .int .i64 b'.o.t, .int .i64 b'.o.si, .int .i64 b'.o.t0, .int .i64 b'.o.s0, .int .i64 b'.o.rn, .int .i64 b'.o.st, .int .i64 b'.o.nn, .slice b'.A b'.n b'.c] 32) = w6 at *
          generalize w5.heap.size = ob at *
          have hdr : Kept (fun _ => False) w6 w6.drew := (Kept.refl _ _).drew
          have p6 := cell_kept hka p0 id
          have KA := k19 (w' := w6.drew) p6 (h9b.kept hdr id) (h9a.kept hdr id)
          have cE := eqop_yes b' b w6.drew (hokb.kept hdr (fun _ _ => id)) (hoka.kept hdr (fun _ _ => id)) HO5.out
          unfold opV at cE
          have H9a := Lib.hid h9a
          have H9b := Lib.hid h9b
          have HKA := Lib.hid (HK3.out.trans hka)
          have HH6 := Lib.hid (HH3.out.kept hka)
          have P6 := Lib.hid p6
          clear h9a h9b hka hoka hokb hdr hk6 p0 p6
          go_cut [58] from 46 to 58 (fun v wx => v = .bool false ∧ Kept (fun _ => False) w6 wx)
          case first =>
            go_region_held3 (fun w' => w'.cell? ⟨pb, 0, none⟩ = some (.slice (some ad) m mc) ∧ w'.cell? ⟨ob, 0, none⟩ = some (.int .i64 b'.o.kd) ∧ w'.cell? ⟨ob, 1, none⟩ = some (.int .i64 b'.o.t) ∧ w'.cell? ⟨ob, 2, none⟩ = some (.int .i64 b'.o.si) ∧ w'.cell? ⟨ob, 3, none⟩ = some (.int .i64 b'.o.t0) ∧ w'.cell? ⟨ob, 4, none⟩ = some (.int .i64 b'.o.s0) ∧ w'.cell? ⟨ob, 5, none⟩ = some (.int .i64 b'.o.rn) ∧ w'.cell? ⟨ob, 6, none⟩ = some (.int .i64 b'.o.st) ∧ w'.cell? ⟨ob, 7, none⟩ = some (.int .i64 b'.o.nn) ∧ w'.cell? ⟨ob, 8, none⟩ = some (.slice b'.A b'.n b'.c) ∧ w'.cell? (ad.add (k * 9)) = some (.int .i64 b.o.kd) ∧ w'.cell? ⟨(ad.add (k * 9)).block, (ad.add (k * 9)).off + 1, none⟩ = some (.int .i64 b.o.t) ∧ w'.cell? ⟨(ad.add (k * 9)).block, (ad.add (k * 9)).off + 2, none⟩ = some (.int .i64 b.o.si) ∧ w'.cell? ⟨(ad.add (k * 9)).block, (ad.add (k * 9)).off + 3, none⟩ = some (.int .i64 b.o.t0) ∧ w'.cell? ⟨(ad.add (k * 9)).block, (ad.add (k * 9)).off + 4, none⟩ = some (.int .i64 b.o.s0) ∧ w'.cell? ⟨(ad.add (k * 9)).block, (ad.add (k * 9)).off + 5, none⟩ = some (.int .i64 b.o.rn) ∧ w'.cell? ⟨(ad.add (k * 9)).block, (ad.add (k * 9)).off + 6, none⟩ = some (.int .i64 b.o.st) ∧ w'.cell? ⟨(ad.add (k * 9)).block, (ad.add (k * 9)).off + 7, none⟩ = some (.int .i64 b.o.nn) ∧ w'.cell? ⟨(ad.add (k * 9)).block, (ad.add (k * 9)).off + 8, none⟩ = some (.slice b.A b.n b.c))
              (first | with_reducible exact KB | with_reducible exact KA)
              (first
                | (go_at_call 13; refine (num25_any _ _).mono ?_; rintro e w' ⟨rfl, hw⟩; have hw2 := hw.symm; subst hw2)
                | (go_at_call 14; refine cE.mono ?_; rintro e w7 ⟨rfl, hk7⟩; have HK7 := Lib.hid (((Kept.refl (fun _ => False) w6).drew).trans hk7); have KB := k19 (w' := w7) (cell_kept HK7.out P6.out id) (H9b.out.kept HK7.out id) (H9a.out.kept HK7.out id); clear hk7))
            all_goals
              go_wp2_with fail
              go_meet
              exact ⟨rfl, HK7.out⟩
          case rest =>
            obtain ⟨rfl, hk7⟩ := hcut
            have HK7 := Lib.hid hk7
            clear hk7 KA cE
            go_wp2_with fail
            have hS := HS.out
            go_loopw [8] (fun v wx => ∃ q : Nat, q ≤ 21 ∧ v = .int .i64 q ∧ Kept (fun _ => False) w6 wx) (fun v _ => 21 - (intOf v).toNat)
            case atStart => exact ⟨0, Nat.zero_le _, rfl, HK7.out⟩
            case round =>
              obtain ⟨q, hq, rfl, hkq⟩ := hrel
              have HKQ := Lib.hid hkq
              clear hkq
              by_cases hq2 : q < 21
              · have e1 : decide ((q : Int) < (S.size : Int)) = true := decide_eq_true (by omega)
                have e2 : decide (q < S.size) = true := decide_eq_true (by omega)
                have t3 : (0 : Int) ≤ (q : Int) := by omega
                have t4 : (q : Int) ≤ (S.size : Int) := by omega
                have hcs := cut_size S q (by omega)
                have cL := fun W => ptake_len (S.extract 0 q) W (by omega) (by omega)
                clear hcs hS
                go_wp2_with (first | (go_at_call 13; refine (num25_any _ _).mono ?_; rintro e w' ⟨rfl, hw⟩; have hw2 := hw.symm; subst hw2) | (go_at_call 15; refine (cL _).mono ?_; rintro e w8 ⟨rfl, hk8⟩; have HK8 := Lib.hid (HKQ.out.trans hk8); clear hk8))
                go_roundw
                case rel => exact ⟨q + 1, by omega, by go_num, HK8.out.alloc _⟩
                case measure => simp [intOf] <;> omega
              · have e1 : decide ((q : Int) < (S.size : Int)) = false := decide_eq_false (by omega)
                have e2 : decide (q < S.size) = false := decide_eq_false (by omega)
                clear hS
                go_wp2_with fail
                go_roundw
                case rel => exact ⟨k + 1, by omega, by omega, by go_num, HH6.out.kept HKQ.out, HKA.out.trans HKQ.out⟩
                case measure => simp [intOf] <;> omega
        · have cB := pbytes_no b wr HOK.out HH3.out.tabs ho
          unfold opV at cB
          clear ho
          go_wp2_with (first | (go_at_call 13; refine (num25_any _ _).mono ?_; rintro e w' ⟨rfl, hw⟩; have hw2 := hw.symm; subst hw2) | (go_at_call 10; refine cB.mono ?_; rintro e w4 ⟨rfl, hk4⟩; have HK4 := Lib.hid hk4; clear hk4))
          go_roundw
          case rel => exact ⟨k + 1, by omega, by omega, by go_num, HH3.out.kept HK4.out, HK3.out.trans HK4.out⟩
          case measure => simp [intOf] <;> omega
      · go_upto_region 4 with fail
        go_cut [26] from 18 to 26 (fun v wx => v = .bool false ∧ wr = wx)
        case first =>
          by_cases hm : k < m
          · have b1 : decide (k < m) = true := decide_eq_true hm
            have b2 : decide ((k : Int) < (m : Int)) = true := decide_eq_true (by omega)
            have b3 : decide (k < 8) = false := decide_eq_false (by omega)
            have b4 : decide ((k : Int) < 8) = false := decide_eq_false (by omega)
            clear hc hm hk8 hkm
            go_wp2_with fail
            go_meet
            exact ⟨rfl, rfl⟩
          · have b1 : decide (k < m) = false := decide_eq_false hm
            have b2 : decide ((k : Int) < (m : Int)) = false := decide_eq_false (by omega)
            clear hc hm hk8 hkm
            go_wp2_with fail
            go_meet
            exact ⟨rfl, rfl⟩
        case rest =>
          obtain ⟨rfl, hw⟩ := hcut
          subst hw
          clear p0 hc
          go_wp2_with fail
          go_loopw [11] (fun v wx => ∃ j : Nat, j ≤ 8 ∧ j ≤ n ∧ v = .int .i64 j ∧ HeldA wx pb ⟨O, m, mc, ops, X, n, nc, ss⟩ ∧ Kept (fun _ => False) w wx) (fun v _ => 8 - (intOf v).toNat)
          case atStart => exact ⟨0, Nat.zero_le _, Nat.zero_le _, rfl, HH3.out, HK3.out⟩
          case round =>
            obtain ⟨j, hj8, hjn, rfl, hh, hkept⟩ := hrel
            have HHj := Lib.hid hh
            have HKj := Lib.hid hkept
            clear hh hkept HH3 HK3
            have p1 : wr.cell? ⟨pb, 1, none⟩ = some (.slice X n nc) := HHj.out.pb.c 1
            by_cases hc : j < n ∧ j < 8
            · obtain ⟨hc1, hc2⟩ := hc
              have b1 : decide (j < n) = true := decide_eq_true hc1
              have b2 : decide ((j : Int) < (n : Int)) = true := decide_eq_true (by omega)
              have b3 : decide (j < 8) = true := decide_eq_true hc2
              have b4 : decide ((j : Int) < 8) = true := decide_eq_true (by omega)
              have t1 : (0 : Int) ≤ (j : Int) := by omega
              have t2 : (j : Int) < (n : Int) := by omega
              obtain ⟨xd, s, rfl, hs, hcs, hsz⟩ := HHj.out.ok.ss.cell hc1
              clear hs
              by_cases hd : s.size = 21 ∧ Cd.opOk (Cd.dec s.data.toList)
              · have cT := ptake_good s wr hd.1 hd.2 HHj.out.tabs
                have HD := Lib.hid hd
                unfold opV at cT
                clear hd hsz
                go_upto_region 21 with (go_at_call 15; refine cT.mono ?_; rintro e w5 ⟨⟨b', ho', rfl, hok'⟩, hk5⟩; have HK5 := Lib.hid hk5; have HOK5 := Lib.hid hok'; have HO5 := Lib.hid ho'; clear hk5 hok' ho')
                have hk6 : Kept (fun _ => False) w5 (w5.alloc (opO b')) := (Kept.refl _ _).alloc _
                have h9b := op9_new (w := w5) (b := b')
                have hka := HK5.out.trans hk6
                have hokb := HOK5.out.kept hk6 (fun _ _ => id)
                simp only [opO] at hk6 h9b hka hokb
                clear cT
                generalize w5.alloc (.cells #[.int .i64 b'.o.kd, .int .i64 b'.o.t, .int .i64 b'.o.si, .int .i64 b'.o.t0, .int .i64 b'.o.s0, .int .i64 b'.o.rn, .int .i64 b'.o.st, .int .i64 b'.o.nn, .slice b'.A b'.n b'.c] 32) = w6 at *
                generalize w5.heap.size = ob at *
                have HH6 := Lib.hid (HHj.out.kept hka)
                have HK6 := Lib.hid (HKj.out.trans hka)
                have cB := pbytes_ok b' w6 hokb HH6.out.tabs (by rw [HO5.out]; exact HD.out.2)
                rw [enc_of_dec HD.out.1 HO5.out] at cB
                unfold opV at cB
                have HP6 := Lib.hid (cell_kept hka p1 id)
                have HC6 := Lib.hid (cell_kept hka hcs id)
                obtain ⟨c0, c1, c2, c3, c4, c5, c6, c7, c8⟩ := h9b.cs
                clear h9b hka hokb hk6 p1 hcs
                go_wp2_with (first | (go_at_call 13; refine (num25_any _ _).mono ?_; rintro e w' ⟨rfl, hw⟩; have hw2 := hw.symm; subst hw2) | (go_at_call 10; refine cB.mono ?_; rintro e w7 ⟨rfl, hk7⟩; have HK7 := Lib.hid hk7; have q1 := cell_kept hk7 HP6.out id; have q2 := cell_kept hk7 HC6.out id; clear hk7))
                go_roundw
                case rel => exact ⟨j + 1, by omega, by omega, by go_num, HH6.out.kept HK7.out, HK6.out.trans HK7.out⟩
                case measure => simp [intOf] <;> omega
              · have cT := ptake_bad s wr hsz hd HHj.out.tabs
                clear hd hsz
                go_wp2_with (first | (go_at_call 13; refine (num25_any _ _).mono ?_; rintro e w' ⟨rfl, hw⟩; have hw2 := hw.symm; subst hw2) | (go_at_call 15; refine cT.mono ?_; rintro e w5 ⟨rfl, hk5⟩; have HK5 := Lib.hid hk5; clear hk5))
                go_roundw
                case rel => exact ⟨j + 1, by omega, by omega, by go_num, HHj.out.kept (HK5.out.alloc _), HKj.out.trans (HK5.out.alloc _)⟩
                case measure => simp [intOf] <;> omega
            · go_upto_region 18 with fail
              go_cut [83] from 75 to 83 (fun v wy => v = .bool false ∧ wr = wy)
              case first =>
                by_cases hm : j < n
                · have b1 : decide (j < n) = true := decide_eq_true hm
                  have b2 : decide ((j : Int) < (n : Int)) = true := decide_eq_true (by omega)
                  have b3 : decide (j < 8) = false := decide_eq_false (by omega)
                  have b4 : decide ((j : Int) < 8) = false := decide_eq_false (by omega)
                  clear hc hm hj8 hjn
                  go_wp2_with fail
                  go_meet
                  exact ⟨rfl, rfl⟩
                · have b1 : decide (j < n) = false := decide_eq_false hm
                  have b2 : decide ((j : Int) < (n : Int)) = false := decide_eq_false (by omega)
                  clear hc hm hj8 hjn
                  go_wp2_with fail
                  go_meet
                  exact ⟨rfl, rfl⟩
              case rest =>
                obtain ⟨rfl, hw⟩ := hcut
                subst hw
                clear p1 hc
                go_wp2_with (go_at_call 17; refine (wakes25_any _ HHj.out.tabs).mono ?_; rintro e w9 ⟨rfl, hk9⟩; have HK9 := Lib.hid (HKj.out.trans hk9); clear hk9)
                go_ret
                exact ⟨rfl, HK9.out⟩
  · go_ret
    exact ⟨rfl, HK2.out⟩
end Go.Proofs.YtpgicfbaefcbmaaDoor
