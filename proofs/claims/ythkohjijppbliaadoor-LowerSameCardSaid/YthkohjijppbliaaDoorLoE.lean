/-
  ELEMENTS: order.insert, of one that is not there.
-/
import Derived.Test.YthkohjijppbliaaDoorLoD
import Derived.Test.YthkohjijppbliaaDoorCbB
set_option linter.unusedVariables false
namespace Go.Proofs.YthkohjijppbliaaDoor
open Go Go.RowKit

theorem cells_al {W : World} {pb : Nat} {u1 u2 u3 : Value} (h : W.cell? ⟨pb, 1, none⟩ = some u1 ∧ W.cell? ⟨pb, 2, none⟩ = some u2 ∧ W.cell? ⟨pb, 5, none⟩ = some u3) (o : Obj) : (W.alloc o).cell? ⟨pb, 1, none⟩ = some u1 ∧ (W.alloc o).cell? ⟨pb, 2, none⟩ = some u2 ∧ (W.alloc o).cell? ⟨pb, 5, none⟩ = some u3 := by
  have hk := (Kept.refl (fun _ => False) W).alloc o
  exact ⟨cell_kept hk h.1 id, cell_kept hk h.2.1 id, cell_kept hk h.2.2 id⟩
theorem cells_gr {W W' : World} {pb g0 : Nat} {row : Option Nat} {u1 u2 u3 : Value} (h : W.cell? ⟨pb, 1, none⟩ = some u1 ∧ W.cell? ⟨pb, 2, none⟩ = some u2 ∧ W.cell? ⟨pb, 5, none⟩ = some u3) (hg : W.grownBy W' row) (hr : ∀ k, row = some k → g0 ≤ k) (hp : pb < g0) : W'.cell? ⟨pb, 1, none⟩ = some u1 ∧ W'.cell? ⟨pb, 2, none⟩ = some u2 ∧ W'.cell? ⟨pb, 5, none⟩ = some u3 := by
  have hk : Kept (fun q => g0 ≤ q) W W' := ⟨hg.os, hg.tape, hg.output, hg.size, fun k hk hs => hg.block k hk (fun e => hs (hr k e.symm))⟩
  exact ⟨cell_kept hk h.1 (by show ¬ g0 ≤ pb; omega), cell_kept hk h.2.1 (by show ¬ g0 ≤ pb; omega), cell_kept hk h.2.2 (by show ¬ g0 ≤ pb; omega)⟩
set_option maxRecDepth 100000 in
set_option maxHeartbeats 8000000 in
theorem oinsert_any (L : List ElemS) (v : Value) (b : OpS) (i : Nat) (w : World) (h : Se w v L) (hn : L.length < 2000) (hi : idxE L b.o.t0 b.o.s0 + 1 = (i : Int)) (h0 : i = 0 → b.o.t0 = 0 ∧ b.o.s0 = 0) :
    Calls Tryd.prog 42 #[v, opV b, .bool false] w fun e w' => (∃ v', e = .returned (.tuple #[v', .int .i64 0]) ∧ ∃ j, StopAt L b.o.t b.o.si i j ∧ Oe w' w.heap.size v' (insE L j ⟨b.o.t, b.o.si, b.o.rn, false⟩)) ∧ Kept (fun _ => False) w w' := by
  have hk0 : Kept (fun _ => False) w (w.alloc (opO b)) := (Kept.refl _ w).alloc _
  have HO : Hid (Op9 (w.alloc (opO b)) ⟨w.heap.size, 0, none⟩ b) := op9_new
  have HK0 := Lib.hid hk0
  obtain ⟨A, c, rfl, hA, hnc, hAN⟩ := h.open'
  obtain ⟨n, hN⟩ : ∃ n, L.length = n := ⟨_, rfl⟩
  rw [hN] at hA hnc hAN hn ⊢
  have cF := fun W (hk : Kept (fun _ => False) w W) => find_any L (.slice A n c) b.o.t0 b.o.s0 W (by have := h.kept hk; rwa [hN] at this) (by omega)
  have him : i ≤ n := by have := idxE_lt L b.o.t0 b.o.s0; omega
  have hF : idxE L b.o.t0 b.o.s0 = (i : Int) - 1 := by omega
  rw [hF] at cF
  have HA := Lib.hid hA
  have HAN := Lib.hid hAN
  have HN := Lib.hid hN
  have HH0 := Lib.hid h0
  obtain ⟨o, oA, on, oc⟩ := b
  obtain ⟨kd, t, si, t0, s0, rn, st, nn, seen⟩ := o
  simp only at *
  clear hk0 h hA hN hF hi hAN h0
  unfold opV
  go_enter Tryd.func42, Tryd.ntmps42
  go_upto_region 1 with fail
  simp only [opO] at HK0 HO
  have HPB0 : Hid (∃ pb, w.heap.size = pb) := ⟨_, rfl⟩
  obtain ⟨pb, hpb⟩ := HPB0.out
  have HPB := Lib.hid hpb
  simp only [hpb] at HO ⊢
  clear hpb HPB0
  generalize w.alloc _ = w1 at *
  obtain ⟨c0, c1, c2, c3, c4, c5, c6, c7, c8⟩ := HO.out.cs
  simp only at c0 c1 c2 c3 c4 c5 c6 c7 c8
  have cF1 := cF w1 HK0.out
  have wi : IntKind.i64.wrap ((i : Int) - 1 + 1) = (i : Int) := by rw [show (i : Int) - 1 + 1 = i by omega]; exact IntWalk.i64_in _ ⟨by omega, by omega⟩
  go_upto_region 4 with (go_at_call 41; refine cF1.mono ?_; clear cF1 c0 c1 c2 c3 c4 c5 c6 c7 c8; rintro ee w2 ⟨rfl, hk2⟩; have HK2 := Lib.hid (HK0.out.trans hk2); have HO2 := Lib.hid (HO.out.kept hk2 id); clear hk2)
  clear wi cF
  go_cut [23] from 16 (fun x wx => x = .bool false ∧ w2 = wx)
  case first =>
    by_cases hi0 : i = 0
    · obtain ⟨rfl, rfl⟩ := HH0.out hi0
      subst hi0
      obtain ⟨c0, c1, c2, c3, c4, c5, c6, c7, c8⟩ := HO2.out.cs
      simp only at c0 c1 c2 c3 c4 c5 c6 c7 c8
      go_wp2_with fail
      go_meet
      exact ⟨rfl, rfl⟩
    · have b0 : ((i : Int) == 0) = false := by rw [beq_eq_false_iff_ne]; omega
      have b01 : (i == 0) = false := by rw [beq_eq_false_iff_ne]; omega
      clear hi0
      go_wp2_with fail
      go_meet
      exact ⟨rfl, rfl⟩
  case rest =>
    obtain ⟨rfl, rfl⟩ := hcut
    have b0 : decide ((n : Int) ≥ 2000) = false := decide_eq_false (by omega)
    have b01 : decide (2000 ≤ (n : Int)) = false := decide_eq_false (by omega)
    have b02 : decide (2000 ≤ n) = false := decide_eq_false (by omega)
    have b03 : decide (n ≥ 2000) = false := decide_eq_false (by omega)
    go_wp2_with fail
    clear b0 b01 b02 b03
    go_loopw [8] (fun x wr => ∃ j : Nat, x = .int .i64 j ∧ i ≤ j ∧ j ≤ n ∧ (∀ (k : Nat) (e : ElemS), i ≤ k → k < j → L[k]? = some e → Cd.lessP t si e.t e.si) ∧ Kept (fun _ => False) w2 wr) (fun x _ => n - (intOf x).toNat)
    case atStart => exact ⟨i, rfl, Nat.le_refl _, him, (fun k e h1 h2 => absurd h2 (by omega)), Kept.refl _ _⟩
    case round =>
      obtain ⟨j, rfl, hij, hjn, hles, hkept⟩ := hrel
      have HK := Lib.hid hkept
      have HLS := Lib.hid hles
      have HIJ := Lib.hid hij
      clear hkept hles hij
      have hB : ∃ B : Bool, (B = true → ∃ e, L[j]? = some e ∧ Cd.lessP t si e.t e.si) ∧ (B = false → ∀ e, L[j]? = some e → ¬ Cd.lessP t si e.t e.si) ∧ (∀ e, L[j]? = some e → decide (Cd.lessP t si e.t e.si) = B) ∧ (n ≤ j → B = false) := by
        cases hj : L[j]? with
        | none => exact ⟨false, (fun h => by cases h), (fun _ e h => by cases h), (fun e h => by cases h), fun _ => rfl⟩
        | some e =>
          refine ⟨decide (Cd.lessP t si e.t e.si), (fun h => ⟨e, rfl, of_decide_eq_true h⟩), (fun h e' he' => ?_), (fun e' he' => ?_), (fun h => ?_)⟩
          · injection he' with he'; subst he'; exact of_decide_eq_false h
          · injection he' with he'; subst he'; rfl
          · have h1 := (List.getElem?_eq_some_iff.1 hj).1
            have h2 := HN.out
            omega
      obtain ⟨B, hB1, hB2, hB3, hB4⟩ := hB
      have HB1 := Lib.hid hB1
      have HB2 := Lib.hid hB2
      have HB3 := Lib.hid hB3
      have HB4 := Lib.hid hB4
      clear hB1 hB2 hB3 hB4
      go_upto_region 8 with fail
      go_cut [40] from 27 to 40 (fun x wx => x = .bool B ∧ Kept (fun _ => False) wr wx)
      case first =>
        by_cases hlt : j < n
        · obtain ⟨ad, e, rfl, he, h4'⟩ := (HA.out.kept (HK2.out.trans HK.out) (fun _ _ => id)).at_ hlt
          have H4 := Lib.hid h4'
          have hls := HB3.out e he
          obtain ⟨et, es, er, ed⟩ := e
          have b1 : decide (j < n) = true := decide_eq_true hlt
          have b2 : decide ((j : Int) < (n : Int)) = true := decide_eq_true (by omega)
          have t1 : (0 : Int) ≤ (j : Int) := by omega
          have t2 : (j : Int) < (n : Int) := by omega
          have KF : Hid (∀ W, Kept (fun _ => False) wr W → W.cell? ⟨pb, 1, none⟩ = some (.int .i64 t) ∧ W.cell? ⟨pb, 2, none⟩ = some (.int .i64 si) ∧ W.cell? (ad.add (j * 4)) = some (.int .i64 et) ∧ W.cell? ⟨(ad.add (j * 4)).block, (ad.add (j * 4)).off + 1, none⟩ = some (.int .i64 es)) := fun W hk => ⟨((HO2.out.kept HK.out id).kept hk id).cs.2.1, ((HO2.out.kept HK.out id).kept hk id).cs.2.2.1, (H4.out.kept hk id).c0, (H4.out.kept hk id).c1⟩
          have KA := KF.out wr.drew (Kept.refl _ wr).drew
          have cL := less_any t si et es wr.drew
          simp only at hls
          rw [hls] at cL
          clear he h4' hls
          go_region_held3 (fun (W : World) => W.cell? ⟨pb, 1, none⟩ = some (.int .i64 t) ∧ W.cell? ⟨pb, 2, none⟩ = some (.int .i64 si) ∧ W.cell? (ad.add (j * 4)) = some (.int .i64 et) ∧ W.cell? ⟨(ad.add (j * 4)).block, (ad.add (j * 4)).off + 1, none⟩ = some (.int .i64 es))
            (first | with_reducible exact KB | with_reducible exact KA | fail)
            (first | (go_at_call 70; refine cL.mono ?_; rintro r w3 ⟨rfl, hk3⟩; have HK3 := Lib.hid ((Kept.refl (fun _ => False) wr).drew.trans hk3); have KB := KF.out w3 HK3.out; clear hk3 cL))
          all_goals
            clear KA KB
            go_wp2_with fail
            go_meet
            exact ⟨rfl, HK3.out⟩
        · obtain rfl : j = n := by omega
          have hBf := HB4.out (Nat.le_refl _)
          subst hBf
          have b1 : decide (j < j) = false := decide_eq_false (by omega)
          have b2 : decide ((j : Int) < (j : Int)) = false := decide_eq_false (by omega)
          go_quiet (fail)
          go_wp2_with fail
          go_meet
          exact ⟨rfl, (Kept.refl _ wr).drewN _⟩
      case rest =>
        obtain ⟨rfl, hk3⟩ := hcut
        obtain ⟨w3, hw3⟩ : ∃ w3, w3 = wc := ⟨_, rfl⟩
        subst hw3
        have HK3 := Lib.hid (HK.out.trans hk3)
        clear hk3
        cases B with
        | true =>
          have hjl : j < n := by
            obtain ⟨e, he, _⟩ := HB1.out rfl
            have h1 := (List.getElem?_eq_some_iff.1 he).1
            have h2 := HN.out
            omega
          have HLS2 : Hid (∀ (k : Nat) (e : ElemS), i ≤ k → k < j + 1 → L[k]? = some e → Cd.lessP t si e.t e.si) := by
            show ∀ k e, _
            intro k e h1 h2 h3
            by_cases hkj : k = j
            · subst hkj
              obtain ⟨e', he', hl⟩ := HB1.out rfl
              rw [he'] at h3
              injection h3 with h3
              subst h3
              exact hl
            · exact HLS.out k e h1 (by omega) h3
          go_wp2_with fail
          go_roundw
          case rel => exact ⟨j + 1, by go_num, by have := HIJ.out; omega, by omega, HLS2.out, HK3.out⟩
          case measure => simp [intOf] <;> omega
        | false =>
          have HST : Hid (StopAt L t si i j) := ⟨HIJ.out, by have := HN.out; omega, HLS.out, HB2.out rfl⟩
          have HKW3 := Lib.hid (HK2.out.trans HK3.out)
          have wn : IntKind.i64.wrap ((n : Int) + 1) = ((n + 1 : Nat) : Int) := by rw [show (n : Int) + 1 = ((n + 1 : Nat) : Int) by omega]; exact IntWalk.i64_in _ ⟨by omega, by omega⟩
          obtain ⟨N, hN1⟩ : ∃ N, n + 1 = N := ⟨_, rfl⟩
          rw [hN1] at wn
          obtain ⟨w4, hmk, hown, hk4⟩ := make_els N w3 (by omega)
          have HKW4 := Lib.hid (HKW3.out.trans hk4)
          have HOW := Lib.hid hown
          have hg0 : w.heap.size ≤ w3.heap.size := HKW3.out.size
          have hg1 : w3.heap.size < w4.heap.size := (hown.lt _ rfl).2
          obtain ⟨g0, hg⟩ : ∃ g0, w3.heap.size = g0 := ⟨_, rfl⟩
          rw [hg] at hmk HOW hg0 hg1
          have HG0 := Lib.hid hg0
          have HG1 := Lib.hid hg1
          have HK43 := Lib.hid hk4
          have hO3 := HO2.out.kept HK3.out id
          have HPG : Hid (pb < g0) := by rw [← hg]; exact World.block_lt_of_cell? w3 _ hO3.cs.1
          clear hk4 hown hN1 hg hg0 hg1 hO3
          go_upto_region 11 with fail
          clear hmk wn
          have hO4 := (HO2.out.kept HK3.out id).kept (HK43.out) id
          have HOX := Lib.hid hO4
          have q1 : w4.drew.cell? ⟨pb, 1, none⟩ = some (.int .i64 t) := hO4.cs.2.1
          have q2 : w4.drew.cell? ⟨pb, 2, none⟩ = some (.int .i64 si) := hO4.cs.2.2.1
          have q5 : w4.drew.cell? ⟨pb, 5, none⟩ = some (.int .i64 rn) := hO4.cs.2.2.2.2.2.1
          have t1 : (0 : Int) ≤ (j : Int) := by omega
          have t2 : (j : Int) ≤ (c : Int) := by omega
          have t3 : (j : Int) ≤ (n : Int) := by omega
          have HKA : Hid (Kept (fun _ => False) w w4.drew) := HKW4.out.drew
          have HKB : Hid (Kept (fun _ => False) w (w4.alloc (elemO ⟨t, si, rn, false⟩)).drew) := (HKW4.out.alloc _).drew
          have HOA : Hid (Oe w4.drew g0 (.slice (some ⟨g0, 0, none⟩) 0 N) []) := HOW.out.kept (Kept.refl (fun _ => False) w4).drew
          have HOB : Hid (Oe (w4.alloc (elemO ⟨t, si, rn, false⟩)).drew g0 (.slice (some ⟨g0, 0, none⟩) 0 N) []) := HOW.out.kept ((Kept.refl (fun _ => False) w4).alloc _).drew
          have HEA : Hid (Eg w4.drew A j (L.take j)) := (HA.out.kept HKA.out (fun _ _ => id)).take_ hjn
          have HEB : Hid (Eg (w4.alloc (elemO ⟨t, si, rn, false⟩)).drew A j (L.take j)) := (HA.out.kept HKB.out (fun _ _ => id)).take_ hjn
          have HNA : Hid (A = none → j = 0 ∧ c = 0) := fun h => by have := HAN.out h; omega
          have HSA : Hid (g0 ≤ w4.drew.heap.size) := by have h1 := HG1.out; show g0 ≤ w4.heap.size; omega
          have HSB : Hid (g0 ≤ (w4.alloc (elemO ⟨t, si, rn, false⟩)).drew.heap.size) := by
            have h1 := HG1.out
            have h2 : (w4.alloc (elemO ⟨t, si, rn, false⟩)).drew.heap.size = w4.heap.size + 1 := by show (w4.alloc _).heap.size = _; simp
            show g0 ≤ _
            omega
          have HLJ : Hid (([] : List ElemS).length + j ≤ 100000) := by show _ ≤ _; simp; omega
          have HLJ2 : Hid (∀ T : List ElemS, T = [] ++ L.take j → T.length + 1 ≤ 100000) := by
            show ∀ T : List ElemS, _
            rintro T rfl
            simp
            omega
          have HEO : Hid (Eg (w4.alloc (elemO ⟨t, si, rn, false⟩)) (some ⟨w4.heap.size, 0, none⟩) 1 [⟨t, si, rn, false⟩]) := one_el w4 _
          have HROW : Hid (∀ k, (Value.slice (some ⟨g0, 0, none⟩) 0 N).ownBlock = some k → w.heap.size ≤ k) := by
            show ∀ k, _
            intro k hk
            injection hk with hk
            subst hk
            exact HG0.out
          have HOP : Hid (∀ (W W' : World) (T : Value), Kept (fun _ => False) w4 W → W.grownBy W' T.ownBlock → (∀ k, T.ownBlock = some k → g0 ≤ k) → W'.cell? ⟨pb, 1, none⟩ = some (.int .i64 t) ∧ W'.cell? ⟨pb, 2, none⟩ = some (.int .i64 si) ∧ W'.cell? ⟨pb, 5, none⟩ = some (.int .i64 rn)) := by
            show ∀ (W W' : World) (T : Value), _
            intro W W' T hk hg hT
            have h1 := HOX.out.kept (grown_kept hk hg) (by
              intro e
              have h2 := hT _ e
              have h3 := HPG.out
              have h4 : (⟨pb, 0, none⟩ : Addr).block = pb := rfl
              omega)
            exact ⟨h1.cs.2.1, h1.cs.2.2.1, h1.cs.2.2.2.2.2.1⟩
          have HRG : Hid (∀ k, (Value.slice (some ⟨g0, 0, none⟩) 0 N).ownBlock = some k → g0 ≤ k) := by
            show ∀ k, _
            intro k hk
            injection hk with hk
            have hk' : g0 = k := hk
            omega
          have HBS : Hid (∀ W B T K, B = g0 → Oe W B T K → (∀ k, T.ownBlock = some k → w.heap.size ≤ k)) := by
            show ∀ W B T K, _
            intro W B T K hB ho k hk
            have h1 := (ho.lt k hk).1
            have h2 := HG0.out
            omega
          have HD4 : Hid (Kept (fun _ => False) w4 w4.drew) := (Kept.refl _ w4).drew
          have HD4A : Hid (Kept (fun _ => False) w4 ((w4.alloc (elemO ⟨t, si, rn, false⟩)).drew)) := ((Kept.refl _ w4).alloc _).drew
          have HEK : Hid (∀ W', ((w4.alloc (elemO ⟨t, si, rn, false⟩)).drew).grownBy W' (Value.slice (some ⟨g0, 0, none⟩) 0 N).ownBlock → Eg W' (some ⟨w4.heap.size, 0, none⟩) 1 [⟨t, si, rn, false⟩]) := by
            show ∀ W', _
            intro W' hg
            refine (one_el w4 ⟨t, si, rn, false⟩).kept (grown_kept (T := .slice (some ⟨g0, 0, none⟩) 0 N) (Kept.refl (fun _ => False) (w4.alloc (elemO ⟨t, si, rn, false⟩))).drew hg) (fun a ha e => ?_)
            injection ha with ha
            subst ha
            injection e with e
            have h1 := HG1.out
            have e2 : g0 = w4.heap.size := e
            exact absurd e2 (by omega)
          clear hO4
          simp only [elemO] at HD4A HEK
          simp only [elemO] at HKB HOB HEB HSB HEO
          have KA : w4.drew.cell? ⟨pb, 1, none⟩ = some (.int .i64 t) ∧ w4.drew.cell? ⟨pb, 2, none⟩ = some (.int .i64 si) ∧ w4.drew.cell? ⟨pb, 5, none⟩ = some (.int .i64 rn) := ⟨q1, q2, q5⟩
          have KAC : (w4.alloc (.cells #[.int .i64 t, .int .i64 si, .int .i64 rn, .bool false] 71)).drew.cell? ⟨pb, 1, none⟩ = some (.int .i64 t) ∧ (w4.alloc (.cells #[.int .i64 t, .int .i64 si, .int .i64 rn, .bool false] 71)).drew.cell? ⟨pb, 2, none⟩ = some (.int .i64 si) ∧ (w4.alloc (.cells #[.int .i64 t, .int .i64 si, .int .i64 rn, .bool false] 71)).drew.cell? ⟨pb, 5, none⟩ = some (.int .i64 rn) := ⟨(HOX.out.kept HD4A.out id).cs.2.1, (HOX.out.kept HD4A.out id).cs.2.2.1, (HOX.out.kept HD4A.out id).cs.2.2.2.2.2.1⟩
          clear q1 q2 q5
          go_cut [9] from 47 to 58 (fun x wx => Oe wx g0 x (L.take j ++ [⟨t, si, rn, false⟩]) ∧ Kept (fun _ => False) w wx)
          case first =>
            go_region_held3 (fun (W : World) => W.cell? ⟨pb, 1, none⟩ = some (.int .i64 t) ∧ W.cell? ⟨pb, 2, none⟩ = some (.int .i64 si) ∧ W.cell? ⟨pb, 5, none⟩ = some (.int .i64 rn))
              (first | with_reducible exact KD | with_reducible exact KBC | with_reducible exact KB | with_reducible exact KAC | with_reducible exact KA | fail)
              (first
                | (refine step_app_els rfl (.tmp 47) (.tmp 50) rfl g0 (.slice (some ⟨g0, 0, none⟩) 0 N) [] rfl HOA.out A j c (L.take j) rfl HEA.out HNA.out HLJ.out HSA.out ?_; intro T5 w5 hown5 hgrow5 hat5; have HR5 := Lib.hid (HBS.out _ _ _ _ rfl hown5); have HS5 : Hid (g0 ≤ (w5.alloc (.cells #[.int .i64 t, .int .i64 si, .int .i64 rn, .bool false] 71)).heap.size) := Nat.le_trans HSA.out (Nat.le_trans hgrow5.size (by simp)); have HO5 := Lib.hid (hown5.kept ((Kept.refl (fun _ => False) w5).alloc (.cells #[.int .i64 t, .int .i64 si, .int .i64 rn, .bool false] 71))); have HK5 := Lib.hid ((HKA.out.grew hgrow5 HROW.out).alloc (.cells #[.int .i64 t, .int .i64 si, .int .i64 rn, .bool false] 71)); have HE5 : Hid (Eg (w5.alloc (.cells #[.int .i64 t, .int .i64 si, .int .i64 rn, .bool false] 71)) (some ⟨w5.heap.size, 0, none⟩) 1 [⟨t, si, rn, false⟩]) := one_el w5 ⟨t, si, rn, false⟩; have HG5 : Hid (∀ k, T5.ownBlock = some k → g0 ≤ k) := (fun k hk => (hown5.lt k hk).1); have KB := HOP.out _ _ _ HD4.out hgrow5 HRG.out; have KBC := cells_al KB (.cells #[.int .i64 t, .int .i64 si, .int .i64 rn, .bool false] 71); clear hown5 hgrow5 hat5)
                | (refine step_app_els rfl (.tmp 47) (.tmp 50) rfl g0 (.slice (some ⟨g0, 0, none⟩) 0 N) [] rfl HOB.out A j c (L.take j) rfl HEB.out HNA.out HLJ.out HSB.out ?_; intro T5 w5 hown5 hgrow5 hat5; have HR5 := Lib.hid (HBS.out _ _ _ _ rfl hown5); have HS5 : Hid (g0 ≤ w5.heap.size) := Nat.le_trans HSB.out hgrow5.size; have HO5 := Lib.hid hown5; have HK5 := Lib.hid (HKB.out.grew hgrow5 HROW.out); have HE5 := Lib.hid (HEK.out w5 hgrow5); have HG5 : Hid (∀ k, T5.ownBlock = some k → g0 ≤ k) := (fun k hk => (hown5.lt k hk).1); have KB := HOP.out _ _ _ HD4A.out hgrow5 HRG.out; clear hgrow5 hown5 hat5)
                | (refine step_app_els rfl (.tmp 51) (.tmp 57) rfl g0 T5 _ rfl HO5.out _ 1 1 [⟨t, si, rn, false⟩] rfl HE5.out (fun h => by cases h) (HLJ2.out _ rfl) HS5.out ?_; intro T6 w6 hown6 hgrow6 hat6; have HO6 := Lib.hid hown6; have HK6 := Lib.hid (HK5.out.grew hgrow6 HR5.out); have KD := (by first | exact cells_gr KB hgrow6 HG5.out HPG.out | exact cells_gr KBC hgrow6 HG5.out HPG.out : w6.cell? ⟨pb, 1, none⟩ = some (.int .i64 t) ∧ w6.cell? ⟨pb, 2, none⟩ = some (.int .i64 si) ∧ w6.cell? ⟨pb, 5, none⟩ = some (.int .i64 rn)); clear hown6 hgrow6 hat6))
            all_goals
              go_wp2_with fail
              go_meet
              exact ⟨HO6.out, HK6.out⟩
          case rest =>
            obtain ⟨ho6, hk6⟩ := hcut
            obtain ⟨w6, hw6⟩ : ∃ w6, w6 = wc := ⟨_, rfl⟩
            subst hw6
            have HO6 := Lib.hid ho6
            have HK6 := Lib.hid hk6
            have HG6 : Hid (g0 ≤ w6.heap.size) := by
              obtain ⟨T, cT, e⟩ := ho6.form
              have h1 := ho6.lt
              rcases ho6.2 with ⟨_, hl⟩ | ⟨g, cap, cur, e2, hb, hg, rest⟩
              · simp at hl
              · have h2 := heap_lt hg
                show _ ≤ _
                omega
            have HEQ : Hid (insE L j ⟨t, si, rn, false⟩ = (L.take j ++ [⟨t, si, rn, false⟩]) ++ L.drop j) := rfl
            have HLJ3 : Hid ((L.take j ++ [(⟨t, si, rn, false⟩ : ElemS)]).length + (n - j) ≤ 100000) := by show _ ≤ _; simp; omega
            have t4 : (n : Int) ≤ (c : Int) := by omega
            have HAK := Lib.hid (HA.out.kept hk6 (fun _ _ => id))
            have HRX : Hid (∀ k, u9.ownBlock = some k → w.heap.size ≤ k) := by
              show ∀ k, _
              intro k hk
              have h1 := (HO6.out.lt k hk).1
              have h2 := HG0.out
              omega
            clear ho6 hk6 KA KAC HOA HOB HEA HEB HEO HSA HSB HKA HKB HLJ HLJ2 HROW HOP HRG HBS HD4 HD4A HEK HNA
            cases A with
            | none =>
              obtain ⟨rfl, rfl⟩ := HAN.out rfl
              obtain rfl : j = 0 := by omega
              have hdr : L.drop 0 = [] := List.drop_eq_nil_of_le (by rw [HN.out]; exact Nat.le_refl _)
              have HDR := Lib.hid hdr
              have HE0 : Hid (Eg w6 none 0 ([] : List ElemS)) := ⟨rfl, fun k e h => by simp at h⟩
              clear hdr
              go_wp2_with (at_builtin; refine wpList_app_els rfl (.tmp 59) (.tmp 62) rfl g0 _ _ rfl HO6.out none 0 0 [] rfl HE0.out (fun _ => ⟨rfl, rfl⟩) (by simp) HG6.out ?_; intro T7 w7 hown7 hgrow7 hat7; have HO7 := Lib.hid hown7; have HK7 := Lib.hid (HK6.out.grew hgrow7 HRX.out); clear hown7 hgrow7 hat7)
              go_ret2
              refine ⟨⟨_, rfl, _, HST.out, ?_⟩, HK7.out⟩
              rw [HEQ.out, HDR.out]
              exact HO7.out.mono HG0.out
            | some ad =>
              have HED := Lib.hid (HAK.out.drop_ hnc j)
              go_wp2_with (at_builtin; refine wpList_app_els rfl (.tmp 59) (.tmp 62) rfl g0 _ _ rfl HO6.out _ (n - j) _ (L.drop j) rfl HED.out (fun h => by split at h <;> cases h) HLJ3.out HG6.out ?_; intro T7 w7 hown7 hgrow7 hat7; have HO7 := Lib.hid hown7; have HK7 := Lib.hid (HK6.out.grew hgrow7 HRX.out); clear hown7 hgrow7 hat7)
              all_goals
                go_ret2
                refine ⟨⟨_, rfl, _, HST.out, ?_⟩, HK7.out⟩
                rw [HEQ.out]
                exact HO7.out.mono HG0.out
end Go.Proofs.YthkohjijppbliaaDoor
