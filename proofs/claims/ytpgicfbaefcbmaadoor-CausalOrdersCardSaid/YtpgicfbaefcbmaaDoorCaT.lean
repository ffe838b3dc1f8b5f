/-
  CAUSAL ORDER: the law CausalOrders.
-/
import Derived.Test.YtpgicfbaefcbmaaDoorCaS
set_option linter.unusedVariables false
namespace Go.Proofs.YtpgicfbaefcbmaaDoor
open Go Go.RowKit Go.ChangeShapes Go.WideShapes Go.ChangeAt

/-- The three orders, as Go reckons them. -/
theorem ats_get {n t k : Nat} {a0 a1 a2 : Int} (ht : t < 3) (h0 : a0 = ((k % n : Nat) : Int)) (h1 : a1 = ((n - 1 - k % n : Nat) : Int)) (h2 : a2 = (((3 * k + 1) % n : Nat) : Int)) : (#[Value.int .i64 a0, .int .i64 a1, .int .i64 a2] : Array Value)[t]? = some (.int .i64 ((Cd.at1 n t k : Nat) : Int)) := by
  subst h0 h1 h2
  match t, ht with
  | 0, _ => rfl
  | 1, _ => rfl
  | 2, _ => rfl
set_option maxRecDepth 100000 in
set_option maxHeartbeats 1000000 in
theorem corders_any (V : Option Addr) (vn vc : Nat) (c1 : Value) (O : Option Addr) (on oc : Nat) (w : World) (hvn : vn ≤ 140737488355328) (hon : on ≤ 140737488355328) (hT : Tabs w) :
    Calls Tryd.prog 6 #[.agg #[.slice V vn vc, c1, .slice O on oc]] w fun e w' => e = .returned (.bool true) ∧ Kept (fun _ => False) w w' := by
  obtain ⟨i0, hi, hz0, hz1, hz2⟩ := info_parts info_op
  have hbx := heap_alloc_new w (.cells #[.slice V vn vc, c1, .slice O on oc] 48)
  have hk1 : Kept (fun _ => False) w (w.alloc (.cells #[.slice V vn vc, c1, .slice O on oc] 48)) := (Kept.refl _ w).alloc _
  have HBX := Lib.hid hbx
  have HK1 := Lib.hid hk1
  have HT := Lib.hid (hT.kept hk1 id id)
  have cN := fun x W => num26_any x W
  have cW := fun W => within_any ((on : Int) + (vn : Int)) 7 (by omega) (by omega) W
  have es : IntKind.i64.wrap ((on : Int) + (vn : Int)) = (on : Int) + (vn : Int) := IntWalk.i64_in _ ⟨by omega, by omega⟩
  clear hbx hk1 hT
  go_enter Tryd.func6, Tryd.ntmps6
  go_upto_region 1 with fail
  generalize w.alloc (.cells #[.slice V vn vc, c1, .slice O on oc] 48) = w1 at *
  generalize w.heap.size = pb at *
  have x0 : w1.cell? ⟨pb, 0, none⟩ = some (.slice V vn vc) := cell_of_row _ _ _ _ _ _ HBX.out
  have x2 : w1.cell? ⟨pb, 2, none⟩ = some (.slice O on oc) := cell_of_row _ _ _ _ _ _ HBX.out
  have e1 : ∀ m : Nat, (m : Int) < 7 → IntKind.i64.wrap (1 + (m : Int)) = 1 + (m : Int) := fun m hm => IntWalk.i64_in _ ⟨by omega, by omega⟩
  go_upto_region 2 with (go_at_call 35; refine (cW _).mono ?_; clear cW; rintro e w' ⟨m, hm, rfl, hw⟩; have hw2 := hw.symm; subst hw2; have em := e1 m hm; obtain ⟨n, hn⟩ : ∃ n : Nat, 1 + (m : Int) = (n : Int) := ⟨m + 1, by omega⟩; rw [hn] at em; have hn7 : 1 ≤ n ∧ n ≤ 7 := by omega)
  clear x0 x2 e1 em hn hm es hvn hon
  generalize hW1 : w1.heap.size = W1 at *
  have HB1 := Lib.hid hW1
  have H7 := Lib.hid hn7
  clear hW1 hn7
  go_wp2_with fail
  go_loopw [4] (fun i wr => ∃ t : Nat, t ≤ 3 ∧ i = .int .i64 t ∧ Kept (fun _ => False) w1 wr) (fun i _ => 3 - (intOf i).toNat)
  case atStart => exact ⟨0, by omega, rfl, Kept.refl _ _⟩
  case round =>
    obtain ⟨t, ht, rfl, hkept⟩ := hrel
    have HK := Lib.hid hkept
    clear hkept
    by_cases ht3 : t < 3
    · have b1 : decide ((t : Int) < 3) = true := decide_eq_true (by omega)
      have t1 : (0 : Int) ≤ (t : Int) := by omega
      have t2 : (t : Int) < 3 := by omega
      have hk4 : Kept (fun _ => False) wr (wr.alloc (.cells #[.int .i64 0, .int .i64 0, .int .i64 0, .int .i64 0] 3)) := (Kept.refl _ wr).alloc _
      have HV4 := Lib.hid (four_new wr 0 0 0 0)
      have HK4 := Lib.hid (HK.out.trans hk4)
      clear hk4
      go_upto_region 6 with fail
      generalize wr.alloc (.cells #[.int .i64 0, .int .i64 0, .int .i64 0, .int .i64 0] 3) = w4 at *
      generalize wr.heap.size = g4 at *
      go_wp2_with fail
      go_loopw [5, 6, 7, 8] (fun v y z i wr => ∃ (k : Nat) (v' y' z' : Value) (bl : List OpS), k ≤ 2 * n ∧ i = .int .i64 k ∧ v = v' ∧ y = y' ∧ z = z' ∧ Vl wr v' (Cd.run n t k).1 ∧ Wl wr y' (Cd.run n t k).2.1 ∧ wr.ownsRow W1 32 9 z' bl.length (flatO bl) ∧ bl.map (·.o) = (Cd.run n t k).2.2 ∧ Kept (fun _ => False) w1 wr) (fun _ _ _ i _ => 2 * n - (intOf i).toNat)
      case atStart => exact ⟨0, _, _, _, [], Nat.zero_le _, rfl, rfl, rfl, rfl, ⟨_, 4, rfl, HV4.out⟩, wl_nil _, World.ownsRow_nil _ _ _ _, rfl, HK4.out⟩
      case round =>
        obtain ⟨k, v, y, z, bl, hk, rfl, hv1, hy1, hz1', hV, hY, hown, hbl, hkept⟩ := hrel
        have hv2 := hv1.symm
        have hy2 := hy1.symm
        have hz2' := hz1'.symm
        subst hv2
        subst hy2
        subst hz2'
        have HKk := Lib.hid hkept
        have HV := Lib.hid hV
        have HY := Lib.hid hY
        have HBL := Lib.hid hbl
        have HOW := Lib.hid hown
        clear hkept hV hY hbl hown HV4
        have h7 := H7.out
        have ew2 : IntKind.i64.wrap (2 * (n : Int)) = 2 * (n : Int) := IntWalk.i64_in _ ⟨by omega, by omega⟩
        by_cases hlt : k < 2 * n
        · obtain ⟨a, V0, V1, W0, W1', L0, A0, A1, ⟨ha, hr0, hr1⟩, hadd, hA, hvo, hws, ⟨hwl, hal, hwl'⟩, hop, hnot⟩ := Cd.round_all h7.1 h7.2 ht3 hlt
          rw [hr0] at HV HY HBL
          have b2 : decide ((k : Int) < 2 * (n : Int)) = true := decide_eq_true (by omega)
          have b3 : decide (k < 2 * n) = true := decide_eq_true hlt
          have nz : ((n : Int) == 0) = false := beq_eq_false_iff_ne.2 (by omega)
          have m1 : (k : Int).tmod (n : Int) = ((k % n : Nat) : Int) := by rw [Int.tmod_eq_emod_of_nonneg (by omega)]; omega
          have m2 : (3 * (k : Int) + 1).tmod (n : Int) = (((3 * k + 1) % n : Nat) : Int) := by rw [show (3 * (k : Int) + 1) = ((3 * k + 1 : Nat) : Int) by omega, Int.tmod_eq_emod_of_nonneg (by omega), ← Int.natCast_emod]
          have hq1 : k % n < n := Nat.mod_lt _ (by omega)
          have hq2 : (3 * k + 1) % n < n := Nat.mod_lt _ (by omega)
          have m3 : ((n - 1 - k % n : Nat) : Int) = (n : Int) - 1 - ((k % n : Nat) : Int) := by omega
          have hget := ats_get (n := n) (k := k) ht3 rfl m3.symm rfl
          rw [ha] at hget
          generalize k % n = q1 at *
          generalize (3 * k + 1) % n = q2 at *
          have w1' : IntKind.i64.wrap ((n : Int) - 1) = (n : Int) - 1 := IntWalk.i64_in _ ⟨by omega, by omega⟩
          have w2' : IntKind.i64.wrap ((n : Int) - 1 - (q1 : Int)) = (n : Int) - 1 - (q1 : Int) := IntWalk.i64_in _ ⟨by omega, by omega⟩
          have w3' : IntKind.i64.wrap (3 * (k : Int)) = 3 * (k : Int) := IntWalk.i64_in _ ⟨by omega, by omega⟩
          have w4' : IntKind.i64.wrap (3 * (k : Int) + 1) = 3 * (k : Int) + 1 := IntWalk.i64_in _ ⟨by omega, by omega⟩
          have w5' : IntKind.i64.wrap (q1 : Int) = (q1 : Int) := IntWalk.i64_in _ ⟨by omega, by omega⟩
          have w6' : IntKind.i64.wrap (q2 : Int) = (q2 : Int) := IntWalk.i64_in _ ⟨by omega, by omega⟩
          have hcell : ∀ W : World, (W.alloc (.cells #[.int .i64 (q1 : Int), .int .i64 ((n : Int) - 1 - (q1 : Int)), .int .i64 (q2 : Int)] 3)).cell? ⟨W.heap.size, t, none⟩ = some (.int .i64 (a : Int)) := fun W => by
            rw [cell_of_row _ _ _ _ _ _ (heap_alloc_new W _)]
            exact hget
          clear m3 hq1 hq2 ha hr0
          go_upto_region 10 with fail
          go_region
          have hk5 : Kept (fun _ => False) wr ((wr.alloc (.cells #[.int .i64 (q1 : Int), .int .i64 ((n : Int) - 1 - (q1 : Int)), .int .i64 (q2 : Int)] 3)).drew) := ((Kept.refl _ wr).alloc _).drew
          have HKr5 := Lib.hid hk5
          clear hk5 hcell hget m1 m2 w1' w2' w3' w4' w5' w6' nz ew2
          generalize (wr.alloc (.cells #[.int .i64 (q1 : Int), .int .i64 ((n : Int) - 1 - (q1 : Int)), .int .i64 (q2 : Int)] 3)).drew = w5 at *
          have hk6 : Kept (fun _ => False) w5 (w5.alloc (.cells #[.int .i64 0, .int .i64 (a : Int), .int .i64 0, .int .i64 0] 3)) := (Kept.refl _ w5).alloc _
          have HKr6 := Lib.hid (HKr5.out.trans hk6)
          have hN6 := four_new w5 0 (a : Int) 0 0
          have hop2 := hop.2.2.1
          simp only [Cd.op1] at hop2
          have ea : IntKind.i64.wrap ((a : Int) + 1) = (a : Int) + 1 := IntWalk.i64_in _ ⟨by omega, by omega⟩
          have cO := lop_any 2 ((a : Int) + 1) ⟨w5.heap.size, 0, none⟩ 4 4 [0, (a : Int), 0, 0] _ hN6 (by omega) (by intro x hx; simp only [List.mem_cons, List.not_mem_nil, or_false] at hx; unfold I64; omega) (by unfold I64; omega) (by unfold I64; omega)
          rw [show mk1 2 ((a : Int) + 1) [0, (a : Int), 0, 0] = Cd.op1 a from rfl] at cO
          generalize hoo : Cd.op1 a = oo at *
          have HADD := Lib.hid (And.intro hadd (And.intro hvo (And.intro hws hop)))
          have HAA := Lib.hid hA
          have HLE := Lib.hid (And.intro hwl (And.intro hal hwl'))
          have HNOT := Lib.hid hnot
          have HR1 := Lib.hid hr1
          clear hk6 hN6 hop2 hadd hvo hws hop hA hwl hal hwl' hnot hr1 hoo
          go_upto_region 12 with fail
          generalize w5.alloc (.cells #[.int .i64 0, .int .i64 (a : Int), .int .i64 0, .int .i64 0] 3) = w6 at *
          generalize w5.heap.size = g5 at *
          go_upto_region 15 with (first
            | (go_at_call 36; refine cO.mono ?_; clear cO; rintro e w7 ⟨⟨b, hbo, rfl, hbk, _⟩, hk7⟩; have HKr7 := Lib.hid (HKr6.out.trans hk7); have cA := add_vl v y V0 W0 b oo 20 _ w7 (HV.out.kept HKr7.out) (HY.out.kept HKr7.out) HADD.out.2.1 HADD.out.2.2.1 (by have := HLE.out; omega) hbk hbo HADD.out.2.2.2 HADD.out.1 (HT.out.kept (HKk.out.trans HKr7.out) id id); clear hbk hbo hk7)
            | (go_at_call 27; refine cA.mono ?_; clear cA; rintro e w8 ⟨⟨L, X, Y, rfl, hL, hX, hY⟩, hk8⟩; have HL8 := Lib.hid hL; have HX8 := Lib.hid hX; have HY8 := Lib.hid hY; have HKr8 := Lib.hid (HKr7.out.trans hk8); clear hL hX hY hk8)
            | (go_at_call 26; refine (num26_any _ _).mono ?_; rintro e w' ⟨rfl, hw⟩; have hw2 := hw.symm; subst hw2))
          obtain ⟨AL, nL, cL, lL, hLe, hML, hCL, heL, _⟩ := HL8.out
          have hLe2 := hLe
          subst hLe2
          have hown8 := ownsRow_kept HOW.out HKr8.out (fun _ _ => id)
          have hbn : bl.length + nL ≤ 14 := by
            have h1 : nL = L0.length := len_of hML.1 heL
            have h2 : bl.length = A0.length := len_of rfl HBL.out
            have h3 := HLE.out.2.1
            rw [HAA.out, List.length_append] at h3
            omega
          have HBN := Lib.hid hbn
          have hbs : W1 ≤ w8.heap.size := by
            have h1 := (HKk.out.trans HKr8.out).size
            have h2 := HB1.out
            omega
          clear hbn HL8
          go_upto_region 16 with (at_builtin; refine wpList_append_ops rfl (.tmp 76) (.tmp 77) rfl W1 z bl rfl hown8 AL nL cL lL rfl hML hCL (by have := HBN.out; omega) hbs ?_; intro z9 w9 hown9 hgrow9; have HOW9 := Lib.hid hown9; have hkz : Kept (fun q => q < w7.heap.size) w8 w9 := ⟨hgrow9.os, hgrow9.tape, hgrow9.output, hgrow9.size, fun q hq hs => hgrow9.block q hq (fun e => hs (by have h1 := (HOW.out.lt q e.symm).2; have h2 := HKr7.out.size; show q < _; omega))⟩; have HX9 := Lib.hid (HX8.out.keep hkz); have HY9 := Lib.hid (HY8.out.keep hkz); have HK9 := Lib.hid (Kept.grew (HKk.out.trans HKr8.out) hgrow9 (fun q hq => by have h1 := (HOW.out.lt q hq).1; have h2 := HB1.out; omega)); clear hown9 hgrow9 hkz)
          obtain ⟨adX, cX, hXe, hNX, _, hvo1⟩ := HX9.out
          obtain ⟨AY, nY, cY, lY, hYe, hMY, hCY, heY, _, _, hoY⟩ := HY9.out
          have hXe2 := hXe
          subst hXe2
          have hYe2 := hYe
          subst hYe2
          have hnY : nY ≤ 14 := by
            have h1 : nY = W1'.length := len_of hMY.1 heY
            have h2 := HLE.out.2.2
            omega
          have HNX := Lib.hid hNX
          have HMY := Lib.hid hMY
          have HEY := Lib.hid heY
          have HOY := Lib.hid hoY
          have HVO1 := Lib.hid hvo1
          have HEL := Lib.hid heL
          have HCY := Lib.hid hCY
          clear hown8 hbs hML hCL heL hNX hMY hCY heY hoY hvo1
          go_wp2_with fail
          go_loopw [15] (fun i wr => ∃ j : Nat, j ≤ nY ∧ i = .int .i64 j ∧ Kept (fun _ => False) w9 wr) (fun i _ => nY - (intOf i).toNat)
          case atStart => exact ⟨0, Nat.zero_le _, rfl, Kept.refl _ _⟩
          case round =>
            obtain ⟨j, hj, rfl, hkept⟩ := hrel
            have HKj := Lib.hid hkept
            clear hkept
            by_cases hjn : j < nY
            · obtain ⟨ad, b, rfl, hb, h9, hok⟩ := (HMY.out.kept HKj.out (fun _ _ => id) (fun _ _ _ _ => id)).at_ hjn
              have hbm := List.mem_of_getElem? hb
              have hno := HNOT.out b.o (by
                have e : lY.map (·.o) = W1' := HEY.out
                rw [← e]
                exact List.mem_map_of_mem hbm)
              have hop := HOY.out b hbm
              have cOl := fun W (hk : Kept (fun _ => False) wr W) => old_no (some adX) cX V1 b W (HNX.out.kept (HKj.out.trans hk) (fun _ _ => id)) HVO1.out (hok.kept hk (fun _ _ => id)) hop hno.1 (HT.out.kept ((HK9.out.trans HKj.out).trans hk) id id)
              have cRd := fun W (hk : Kept (fun _ => False) wr W) => ready_no (some adX) cX V1 b W (HNX.out.kept (HKj.out.trans hk) (fun _ _ => id)) HVO1.out (hok.kept hk (fun _ _ => id)) hop hno.2 (HT.out.kept ((HK9.out.trans HKj.out).trans hk) id id)
              have b5 : decide (j < nY) = true := decide_eq_true hjn
              have b6 : decide ((j : Int) < (nY : Int)) = true := decide_eq_true (by omega)
              have t3 : (0 : Int) ≤ (j : Int) := by omega
              have t4 : (j : Int) < (nY : Int) := by omega
              obtain ⟨c0, c1', c2, c3, c4, c5, c6, c7, c8⟩ := h9
              have HCO := Lib.hid cOl
              have HCR := Lib.hid cRd
              clear hb hok hbm hno hop cOl cRd
              obtain ⟨⟨kd, ti, si, ti0, s0, rn, st, nn, seen⟩, B, mm, mc⟩ := b
              simp only at c0 c1' c2 c3 c4 c5 c6 c7 c8
              unfold opV at HCO HCR
              simp only at HCO HCR
              have cOl := HCO.out wr (Kept.refl _ _)
              go_upto_region 22 with (first
                | (go_at_call 21; refine cOl.mono ?_; clear cOl; rintro e w10 ⟨rfl, hk10⟩; have HK10 := Lib.hid hk10; have cRd := HCR.out w10 hk10; have d0 := cell_kept hk10 c0 id; have d1 := cell_kept hk10 c1' id; have d2 := cell_kept hk10 c2 id; have d3 := cell_kept hk10 c3 id; have d4 := cell_kept hk10 c4 id; have d5 := cell_kept hk10 c5 id; have d6 := cell_kept hk10 c6 id; have d7 := cell_kept hk10 c7 id; have d8 := cell_kept hk10 c8 id; clear hk10 c0 c1' c2 c3 c4 c5 c6 c7 c8)
                | (go_at_call 22; refine cRd.mono ?_; clear cRd; rintro e w11 ⟨rfl, hk11⟩; have HK11 := Lib.hid ((HKj.out.trans HK10.out).trans hk11); clear hk11 d0 d1 d2 d3 d4 d5 d6 d7 d8))
              go_wp2_with (go_at_call 26; refine (num26_any _ _).mono ?_; rintro e w' ⟨rfl, hw⟩; have hw2 := hw.symm; subst hw2)
              have ej : IntKind.i64.wrap ((j : Int) + 1) = (j : Int) + 1 := IntWalk.i64_in _ ⟨by omega, by omega⟩
              go_roundw
              case rel => exact ⟨j + 1, by omega, by go_num, HK11.out⟩
              case measure => simp [intOf] <;> omega
            · obtain rfl : j = nY := by omega
              have b5 : decide (j < j) = false := decide_eq_false (by omega)
              have b6 : decide ((j : Int) < (j : Int)) = false := decide_eq_false (by omega)
              go_wp2_with fail
              go_roundw
              case rel => exact ⟨k + 1, _, _, z9, bl ++ lL, by omega, by go_num, rfl, rfl, rfl, by rw [HR1.out]; exact ⟨adX, cX, rfl, HNX.out.kept HKj.out (fun _ _ => id)⟩, by rw [HR1.out]; exact ⟨AY, j, cY, lY, rfl, HMY.out.kept HKj.out (fun _ _ => id) (fun _ _ _ _ => id), HCY.out, HEY.out⟩, ownsRow_kept HOW9.out HKj.out (fun _ _ => id), by rw [HR1.out, List.map_append, HBL.out, HEL.out, HAA.out], HK9.out.trans HKj.out⟩
              case measure => simp [intOf] <;> omega
        · have hk2 : k = 2 * n := by omega
          have b2 : decide ((k : Int) < 2 * (n : Int)) = false := decide_eq_false (by omega)
          rw [hk2] at HV HY HBL
          have et : IntKind.i64.wrap ((t : Int) + 1) = (t : Int) + 1 := IntWalk.i64_in _ ⟨by omega, by omega⟩
          clear hk2
          by_cases hz : t = 2 ∧ n % 3 = 0
          · have q1 : ((t : Int) == 2) = true := by rw [hz.1]; rfl
            have q2 : (n : Int).tmod 3 = 0 := by rw [Int.tmod_eq_emod_of_nonneg (by omega)]; omega
            clear hz
            go_wp2_with fail
            go_roundw
            case rel => exact ⟨t + 1, by omega, by go_num, HKk.out⟩
            case measure => simp [intOf] <;> omega
          · obtain ⟨V9, A9, hr9, hv9, hl9, hn9⟩ := Cd.end_all h7.1 h7.2 ht3 hz
            rw [hr9] at HV HY HBL
            have hcs : ((t : Int) == 2) = false ∨ (((t : Int) == 2) = true ∧ ∃ r : Nat, (n : Int).tmod 3 = (r : Int) ∧ ((r : Int) == 0) = false) := by
              by_cases h2 : t = 2
              · refine .inr ⟨by rw [h2]; rfl, n % 3, by rw [Int.tmod_eq_emod_of_nonneg (by omega)]; omega, ?_⟩
                have h3 : n % 3 ≠ 0 := fun h => hz ⟨h2, h⟩
                exact beq_eq_false_iff_ne.2 (by omega)
              · exact .inl (beq_eq_false_iff_ne.2 (by omega))
            obtain ⟨adV, cV, hVe, hNV⟩ := HV.out
            obtain ⟨AY, nY, cY, lY, hYe, hMY, _, heY⟩ := HY.out
            have hnY : nY = 0 := len_of hMY.1 heY
            subst hnY
            have hbl9 : bl.length = n := by
              have h := len_of rfl HBL.out
              simp only at h
              omega
            have hown := HOW.out
            rw [hbl9] at hown
            obtain ⟨gz, cz, hze⟩ : ∃ gz cz, z = .slice (some ⟨gz, 0, none⟩) n cz := by
              rcases hown.2 with ⟨_, h0⟩ | ⟨g, cap, cur, e, _⟩
              · omega
              · exact ⟨g, cap, e⟩
            subst hze
            subst hVe
            subst hYe
            have hcz := fun j u => hown.cells (g := gz) rfl j u
            have HCZ : Hid (∀ i : Nat, i < n → wr.cell? ⟨gz, i * 9 + 7, none⟩ = some (.int .i64 ((i : Int) + 1))) := fun i hi => by
              have hib : i < bl.length := by omega
              have h1 : bl[i]? = some bl[i] := List.getElem?_eq_getElem hib
              have h2 := hcz (i * 9 + 7) _ (flatO_get h1 (f := 7) rfl)
              rw [addr_add, Nat.zero_add] at h2
              rw [h2]
              have h3 : A9[i]? = some (bl[i]).o := by
                have e : bl.map (·.o) = A9 := HBL.out
                rw [← e, List.getElem?_map, h1]
                rfl
              rw [hn9 i _ h3]
            obtain ⟨adw, eaw, v1⟩ := hNV.2 1 (n : Int) hv9
            injection eaw with eaw
            subst eaw
            rw [addr_far _ 1 (by omega)] at v1
            have q3 : ((n : Int) != (n : Int)) = false := by simp
            clear hr9 hv9 hl9 hn9 hz hNV hMY heY hbl9 hown hcz HOW HV HY HBL
            rcases hcs with q1 | ⟨q1, r, q2, q4⟩
            all_goals
              go_wp2_with fail
              go_loopw [20] (fun i wr' => ∃ j : Nat, j ≤ n ∧ i = .int .i64 j ∧ wr' = wr) (fun i _ => n - (intOf i).toNat)
              case atStart => exact ⟨0, Nat.zero_le _, rfl, rfl⟩
              case round =>
                obtain ⟨j, hj, rfl, hwr⟩ := hrel
                subst hwr
                by_cases hjn : j < n
                · have c7 := HCZ.out j hjn
                  have b5 : decide ((j : Int) < (n : Int)) = true := decide_eq_true (by omega)
                  have b6 : decide (j < n) = true := decide_eq_true hjn
                  have t3 : (0 : Int) ≤ (j : Int) := by omega
                  have t4 : (j : Int) < (n : Int) := by omega
                  have ej : IntKind.i64.wrap ((j : Int) + 1) = (j : Int) + 1 := IntWalk.i64_in _ ⟨by omega, by omega⟩
                  have q5 : (((j : Int) + 1) != ((j : Int) + 1)) = false := by simp
                  go_wp2_with fail
                  go_roundw
                  case rel => exact ⟨j + 1, by omega, by go_num, trivial⟩
                  case measure => simp [intOf] <;> omega
                · obtain rfl : j = n := by omega
                  have b5 : decide ((j : Int) < (j : Int)) = false := decide_eq_false (by omega)
                  have b6 : decide (j < j) = false := decide_eq_false (by omega)
                  go_wp2_with fail
                  go_roundw
                  case rel => exact ⟨t + 1, by omega, by go_num, HKk.out⟩
                  case measure => simp [intOf] <;> omega
    · obtain rfl : t = 3 := by omega
      have cK := wakes26_any wr (HT.out.kept HK.out id id)
      have b1 : decide (((3 : Nat) : Int) < 3) = false := by decide
      go_wp2_with (go_at_call 34; refine cK.mono ?_; clear cK; rintro e w9 ⟨rfl, hk9⟩; have HK9 := Lib.hid (HK.out.trans hk9); clear hk9)
      go_ret
      exact ⟨rfl, HK1.out.trans HK9.out⟩
end Go.Proofs.YtpgicfbaefcbmaaDoor
