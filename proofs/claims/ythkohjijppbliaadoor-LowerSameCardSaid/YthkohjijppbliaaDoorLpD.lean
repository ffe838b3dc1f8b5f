/-
  SITES: whether they may be.
-/
import Derived.Test.YthkohjijppbliaaDoorLpC
set_option linter.unusedVariables false
namespace Go.Proofs.YthkohjijppbliaaDoor
open Go Go.RowKit

theorem lwithin_any (x l m : Int) (w : World) : Calls Tryd.prog 74 #[.int .i64 x, .int .i64 l, .int .i64 m] w fun e w' => e = .returned (.bool (decide (l ≤ x ∧ x ≤ m))) ∧ w' = w := by
  by_cases h1 : l ≤ x
  · have b1 : decide (l ≤ x) = true := by simp; omega
    by_cases h2 : x ≤ m
    · have b2 : decide (x ≤ m) = true := by simp; omega
      rw [decide_eq_true (show l ≤ x ∧ x ≤ m from ⟨h1, h2⟩)]
      clear h1 h2
      go_enter Tryd.func74, Tryd.ntmps74
      go_wp2
      go_ret
      exact ⟨rfl, rfl⟩
    · have b2 : decide (x ≤ m) = false := by simp; omega
      rw [decide_eq_false (show ¬ (l ≤ x ∧ x ≤ m) by omega)]
      clear h1 h2
      go_enter Tryd.func74, Tryd.ntmps74
      go_wp2
      go_ret
      exact ⟨rfl, rfl⟩
  · have b1 : decide (l ≤ x) = false := by simp; omega
    rw [decide_eq_false (show ¬ (l ≤ x ∧ x ≤ m) by omega)]
    clear h1
    go_enter Tryd.func74, Tryd.ntmps74
    go_wp2
    go_ret
    exact ⟨rfl, rfl⟩
theorem lwithin_b (x l m : Int) (B : Bool) (h : B = true ↔ l ≤ x ∧ x ≤ m) (w : World) : Calls Tryd.prog 74 #[.int .i64 x, .int .i64 l, .int .i64 m] w fun e w' => e = .returned (.bool B) ∧ w' = w := by
  have c := lwithin_any x l m w
  cases B with
  | true => rw [decide_eq_true (h.1 rfl)] at c; exact c
  | false => rw [decide_eq_false (fun hh => by have := h.2 hh; cases this)] at c; exact c
instance (l : List Cd.OpP) : Decidable (opsOk l) := by unfold opsOk; infer_instance
theorem mayops_any (A : Option Addr) (n c : Nat) (al : List OpS) (w : World) (hA : OpsM w A n al) (hn : n ≤ 140737488351232) (hT : Tabs w) :
    Calls Tryd.prog 75 #[.slice A n c] w fun e w' => e = .returned (.bool (decide (opsOk (al.map (·.o))))) ∧ Kept (fun _ => False) w w' := by
  obtain ⟨R, hR⟩ : ∃ R : Bool, decide (opsOk (al.map (·.o))) = R := ⟨_, rfl⟩
  rw [hR]
  have HR1 : Hid (¬ opsOk (al.map (·.o)) → R = false) := fun h => by rw [← hR]; exact decide_eq_false h
  have HR0 : Hid (opsOk (al.map (·.o)) → R = true) := fun h => by rw [← hR]; exact decide_eq_true h
  have HLN : Hid (al.length = n) := hA.1
  by_cases hbig : 8000 < n
  · have b0 : decide (8000 < n) = true := decide_eq_true hbig
    have b01 : decide ((8000 : Int) < (n : Int)) = true := decide_eq_true (by omega)
    have hr1 : R = false := HR1.out (fun h => by have h1 := h.1; rw [List.length_map] at h1; have := HLN.out; omega)
    subst hr1
    clear hA hT hR hbig
    go_enter Tryd.func75, Tryd.ntmps75
    go_wp2_with fail
    go_ret
    exact ⟨rfl, Kept.refl _ _⟩
  have HA := Lib.hid hA
  have HT := Lib.hid hT
  have b0 : decide (8000 < n) = false := decide_eq_false (by omega)
  have b01 : decide ((8000 : Int) < (n : Int)) = false := decide_eq_false (by omega)
  have hn2 : n ≤ 8000 := by omega
  clear hA hT hR hbig hn
  go_enter Tryd.func75, Tryd.ntmps75
  go_wp2_with fail
  clear b0 b01
  go_loopw [10] (fun v wr => ∃ k : Nat, k ≤ n ∧ v = .int .i64 k ∧ (∀ b ∈ al.take k, Cd.opOk b.o) ∧ Kept (fun _ => False) w wr) (fun v _ => n - (intOf v).toNat)
  case atStart => exact ⟨0, Nat.zero_le _, rfl, (fun e he => by simp at he), Kept.refl _ _⟩
  case round =>
    obtain ⟨k, hk, rfl, hal, hkept⟩ := hrel
    have HK := Lib.hid hkept
    have HAL := Lib.hid hal
    clear hkept hal
    by_cases hlt : k < n
    · obtain ⟨ad, b, rfl, hb, h9, hok⟩ := (HA.out.kept HK.out (fun _ _ => id) (fun _ _ _ _ => id)).at_ hlt
      have hk1 : Kept (fun _ => False) wr (wr.alloc (opO b)) := (Kept.refl _ _).alloc _
      have HK1 := Lib.hid (HK.out.trans hk1)
      have HO : Hid (Op9 (wr.alloc (opO b)) ⟨wr.heap.size, 0, none⟩ b) := op9_new
      have HB := Lib.hid hb
      have cM := may_any b (wr.alloc (opO b)) (hok.kept hk1 (fun _ _ => id)) (HT.out.kept HK1.out id id)
      have HNX : Hid (Cd.opOk b.o → ∀ q ∈ al.take (k + 1), Cd.opOk q.o) := by
        show _ → _
        intro h q hq
        rw [List.take_add_one, hb] at hq
        rcases List.mem_append.1 hq with hq | hq
        · exact HAL.out q hq
        · simp at hq
          rw [hq]; exact h
      have HNO : Hid (¬ Cd.opOk b.o → R = false) := by
        show _ → _
        intro h
        exact HR1.out (fun hh => h (hh.2 b.o (List.mem_map.2 ⟨b, List.mem_of_getElem? hb, rfl⟩)))
      obtain ⟨c0, c1, c2, c3, c4, c5, c6, c7, c8⟩ := h9
      obtain ⟨⟨kd, t, si, t0, s0, rn, st, nn, seen⟩, B, m, mc⟩ := b
      simp only at c0 c1 c2 c3 c4 c5 c6 c7 c8
      have b1 : decide (k < n) = true := decide_eq_true hlt
      have b2 : decide ((k : Int) < (n : Int)) = true := decide_eq_true (by omega)
      have t1 : (0 : Int) ≤ (k : Int) := by omega
      have t2 : (k : Int) < (n : Int) := by omega
      clear hb hok hk1
      go_upto_region 6 with fail
      clear c0 c1 c2 c3 c4 c5 c6 c7 c8
      simp only [opO, opV] at HO HK1 cM
      generalize wr.alloc (.cells #[.int .i64 kd, .int .i64 t, .int .i64 si, .int .i64 t0, .int .i64 s0, .int .i64 rn, .int .i64 st, .int .i64 nn, .slice B m mc] 42) = w2 at *
      generalize wr.heap.size = ob at *
      obtain ⟨c0, c1, c2, c3, c4, c5, c6, c7, c8⟩ := HO.out.cs
      simp only at c0 c1 c2 c3 c4 c5 c6 c7 c8
      by_cases hop : Cd.opOk (⟨kd, t, si, t0, s0, rn, st, nn, seen⟩ : Cd.OpP)
      · rw [if_pos hop] at cM
        have HX := Lib.hid (HNX.out hop)
        clear hop
        go_wp2_with (go_at_call 40; refine cM.mono ?_; clear cM c0 c1 c2 c3 c4 c5 c6 c7 c8; rintro ee w6 ⟨rfl, hk6⟩; have HK6 := Lib.hid (HK1.out.trans hk6); clear hk6)
        go_roundw
        case rel => exact ⟨k + 1, by omega, by go_num, HX.out, HK6.out⟩
        case measure => simp [intOf] <;> omega
      · rw [if_neg hop] at cM
        have hr := HNO.out hop
        subst hr
        clear hop
        go_wp2_with (go_at_call 40; refine cM.mono ?_; clear cM c0 c1 c2 c3 c4 c5 c6 c7 c8; rintro ee w6 ⟨rfl, hk6⟩; have HK6 := Lib.hid (HK1.out.trans hk6); clear hk6)
        go_ret
        exact ⟨rfl, HK6.out⟩
    · obtain rfl : k = n := by omega
      have b1 : decide (k < k) = false := decide_eq_false (by omega)
      have b2 : decide ((k : Int) < (k : Int)) = false := decide_eq_false (by omega)
      have hr := HR0.out (by
        have h1 := HAL.out
        rw [List.take_of_length_le (by rw [HLN.out]; exact Nat.le_refl _)] at h1
        refine ⟨by rw [List.length_map, HLN.out]; exact hn2, fun o ho => ?_⟩
        obtain ⟨b, hb, rfl⟩ := List.mem_map.1 ho
        exact h1 b hb)
      subst hr
      go_wp2_with fail
      go_ret
      exact ⟨rfl, HK.out⟩
theorem mayops_b (A : Option Addr) (n c : Nat) (al : List OpS) (B : Bool) (h : B = true ↔ opsOk (al.map (·.o))) (w : World) (hA : OpsM w A n al) (hn : n ≤ 140737488351232) (hT : Tabs w) :
    Calls Tryd.prog 75 #[.slice A n c] w fun e w' => e = .returned (.bool B) ∧ Kept (fun _ => False) w w' := by
  have c := mayops_any A n c al w hA hn hT
  cases B with
  | true => rw [decide_eq_true (h.1 rfl)] at c; exact c
  | false => rw [decide_eq_false (fun hh => by have := h.2 hh; cases this)] at c; exact c
instance (p : SiteP) : Decidable (SOk p) :=
  if h : (1 ≤ p.st ∧ p.st ≤ 4) ∧ (0 ≤ p.ck ∧ p.ck ≤ 10000) ∧ elsOk p.L ∧ (∀ e ∈ p.L, e.t ≤ p.ck) ∧ Cd.vecOk p.seen ∧ opsOk p.wl ∧ opsOk p.ll then
    .isTrue ⟨h.1, h.2.1, h.2.2.1, h.2.2.2.1, h.2.2.2.2.1, h.2.2.2.2.2.1, h.2.2.2.2.2.2⟩
  else .isFalse fun k => h ⟨k.st, k.ck, k.els, k.tms, k.seen, k.wl, k.ll⟩
set_option maxRecDepth 100000 in
set_option maxHeartbeats 8000000 in
theorem lcheck_any (x : SiteS) (w : World) (hx : SiteOk w x) (hT : Tabs w) :
    Calls Tryd.prog 46 #[x.V] w fun e w' => e = .returned (.int .i64 (if SOk x.P then 0 else 1)) ∧ Kept (fun _ => False) w w' := by
  obtain ⟨R, hR⟩ : ∃ R : Int, (if SOk x.P then (0 : Int) else 1) = R := ⟨_, rfl⟩
  rw [hR]
  have HR1 : Hid (¬ SOk x.P → R = 1) := fun h => by rw [← hR, if_neg h]
  have HR0 : Hid (SOk x.P → R = 0) := fun h => by rw [← hR, if_pos h]
  have hk0 : Kept (fun _ => False) w (w.alloc x.O) := (Kept.refl _ w).alloc _
  have HG : Hid ((w.alloc x.O).heap[w.heap.size]? = some x.O) := heap_alloc_new w _
  have HX := Lib.hid (hx.kept hk0)
  have HT0 := Lib.hid (hT.kept hk0 id id)
  have HK0 := Lib.hid hk0
  clear hx hT hk0 hR
  obtain ⟨st, ck, dv, L, sA, sn, sc, seen, wA, wn, wc, wl, lA, ln, lc, ll⟩ := x
  simp only [SiteS.V, SiteS.O, SiteS.cs, SiteS.P] at *
  obtain ⟨A, c, hdv, hA, hnc, hAN⟩ := HX.out.doc.open'
  simp only at hdv
  subst hdv
  obtain ⟨n, hN⟩ : ∃ n, L.length = n := ⟨_, rfl⟩
  have hln := HX.out.n1
  simp only at hA hnc hAN hln
  rw [hN] at hA hnc hAN hln
  have HA := Lib.hid hA
  have HN := Lib.hid hN
  have HSN : Hid (seen.length = sn) := HX.out.seen.1
  clear hA hnc hAN
  simp only [hN] at HG HX HK0 HT0 ⊢
  clear hN
  have cW1 := fun B h W => lwithin_b st 1 4 B h W
  have cW2 := fun B h W => lwithin_b ck 0 10000 B h W
  have HW1 := Lib.hid cW1
  have HW2 := Lib.hid cW2
  clear cW1 cW2
  go_enter Tryd.func46, Tryd.ntmps46
  go_upto_region 1 with fail
  generalize w.alloc (.cells #[.int .i64 st, .int .i64 ck, .slice A n c, .slice sA sn sc, .slice wA wn wc, .slice lA ln lc] 46) = w1 at *
  generalize w.heap.size = g at *
  obtain ⟨p0, p1, p2, p3, p4, p5⟩ := site_cells (x := ⟨st, ck, .slice A n c, L, sA, sn, sc, seen, wA, wn, wc, wl, lA, ln, lc, ll⟩) HG.out
  simp only at p0 p1 p2 p3 p4 p5
  by_cases h1 : 1 ≤ st ∧ st ≤ 4
  · have c1 := HW1.out true (by simp [h1])
    by_cases h2 : 0 ≤ ck ∧ ck ≤ 10000
    · have c2 := HW2.out true (by simp [h2])
      have HH1 := Lib.hid h1
      have HH2 := Lib.hid h2
      clear h1 h2
      by_cases h3 : elsOk L
      · have cC := fun W (hk : Kept (fun _ => False) w1 W) => ocheck_any L _ W (HX.out.doc.kept hk) HX.out.n1 (HT0.out.kept hk id id)
        rw [if_pos h3] at cC
        have HH3 := Lib.hid h3
        clear h3
        go_upto_region 3 with (first
          | (go_at_call 74; refine (c1 _).mono ?_; clear c1; rintro e w2 ⟨rfl, hw⟩; have hwx := hw.symm; subst hwx)
          | (go_at_call 74; refine (c2 _).mono ?_; clear c2; rintro e w3 ⟨rfl, hw⟩; have hwx := hw.symm; subst hwx)
          | (go_at_call 39; refine (cC _ (Kept.refl _ _)).mono ?_; clear cC; rintro e w4 ⟨rfl, hk4⟩; have HK4 := Lib.hid (HK0.out.trans hk4); have HKA := Lib.hid hk4; clear hk4))
        have HG4 := Lib.hid ((HKA.out.block g (heap_lt HG.out) id).trans HG.out)
        clear p0 p1 p2 p3 p4 p5
        obtain ⟨p0, p1, p2, p3, p4, p5⟩ := site_cells (x := ⟨st, ck, .slice A n c, L, sA, sn, sc, seen, wA, wn, wc, wl, lA, ln, lc, ll⟩) HG4.out
        simp only at p0 p1 p2 p3 p4 p5
        go_wp2_with fail
        clear p0 p1 p2 p3 p4 p5
        go_loopw [26] (fun v wr => ∃ k : Nat, k ≤ n ∧ v = .int .i64 k ∧ (∀ e ∈ L.take k, e.t ≤ ck) ∧ Kept (fun _ => False) w4 wr) (fun v _ => n - (intOf v).toNat)
        case atStart => exact ⟨0, Nat.zero_le _, rfl, (fun e he => by simp at he), Kept.refl _ _⟩
        case round =>
          obtain ⟨k, hk, rfl, hal, hkept⟩ := hrel
          have HK := Lib.hid hkept
          have HAL := Lib.hid hal
          clear hkept hal
          by_cases hlt : k < n
          · obtain ⟨ad, e, rfl, he, h4'⟩ := (HA.out.kept (HKA.out.trans HK.out) (fun _ _ => id)).at_ hlt
            have c0 := h4'.c0
            have c1 := h4'.c1
            have c2 := h4'.c2
            have c3 := h4'.c3
            have b1 : decide (k < n) = true := decide_eq_true hlt
            have b2 : decide ((k : Int) < (n : Int)) = true := decide_eq_true (by omega)
            have t1 : (0 : Int) ≤ (k : Int) := by omega
            have t2 : (k : Int) < (n : Int) := by omega
            have hk5 : Kept (fun _ => False) wr (wr.alloc (elemO e)) := (Kept.refl _ wr).alloc _
            have HE5 : Hid (El4 (wr.alloc (elemO e)) ⟨wr.heap.size, 0, none⟩ e) := el4_new
            have HK5 := Lib.hid (HK.out.trans hk5)
            have HG5 := Lib.hid ((HK5.out.block g (heap_lt HG4.out) id).trans HG4.out)
            have HNX : Hid (e.t ≤ ck → ∀ q ∈ L.take (k + 1), q.t ≤ ck) := by
              show _ → _
              intro h q hq
              rw [take_snoc he] at hq
              rcases List.mem_append.1 hq with hq | hq
              · exact HAL.out q hq
              · rw [List.mem_singleton.1 hq]; exact h
            have HNO : Hid (¬ e.t ≤ ck → R = 1) := by
              show _ → _
              intro h
              exact HR1.out (fun hh => h (hh.tms e (List.mem_of_getElem? he)))
            clear he h4' hk5
            go_upto_region 6 with fail
            clear c0 c1 c2 c3
            simp only [elemO] at HE5 HK5 HG5
            generalize wr.alloc (.cells #[.int .i64 e.t, .int .i64 e.si, .int .i64 e.r, .bool e.d] 71) = w5 at *
            generalize wr.heap.size = q at *
            obtain ⟨x0, x1, x2, x3⟩ := HE5.out.cs
            obtain ⟨p0, p1, p2, p3, p4, p5⟩ := site_cells (x := ⟨st, ck, .slice (some ad) n c, L, sA, sn, sc, seen, wA, wn, wc, wl, lA, ln, lc, ll⟩) HG5.out
            simp only at p0 p1 p2 p3 p4 p5
            by_cases ht : e.t ≤ ck
            · have b3 : decide (ck < e.t) = false := decide_eq_false (by omega)
              have b4 : decide (e.t > ck) = false := decide_eq_false (by omega)
              have HX6 := Lib.hid (HNX.out ht)
              clear ht
              go_wp2_with fail
              go_roundw
              case rel => exact ⟨k + 1, by omega, by go_num, HX6.out, HK5.out⟩
              case measure => simp [intOf] <;> omega
            · have b3 : decide (ck < e.t) = true := decide_eq_true (by omega)
              have b4 : decide (e.t > ck) = true := decide_eq_true (by omega)
              have hr := HNO.out ht
              subst hr
              clear ht
              go_wp2_with fail
              go_ret
              exact ⟨rfl, HK4.out.trans HK5.out⟩
          · obtain rfl : k = n := by omega
            have b1 : decide (k < k) = false := decide_eq_false (by omega)
            have b2 : decide ((k : Int) < (k : Int)) = false := decide_eq_false (by omega)
            have HH4 : Hid (∀ e ∈ L, e.t ≤ ck) := by
              have h1 := HAL.out
              rw [List.take_of_length_le (by rw [HN.out]; exact Nat.le_refl _)] at h1
              exact h1
            have HKB := Lib.hid (HKA.out.trans HK.out)
            have HKC := Lib.hid (HK4.out.trans HK.out)
            have HG5 := Lib.hid ((HK.out.block g (heap_lt HG4.out) id).trans HG4.out)
            have HX5 := Lib.hid (HX.out.kept HKB.out)
            have HT5 := Lib.hid (HT0.out.kept HKB.out id id)
            obtain ⟨p0, p1, p2, p3, p4, p5⟩ := site_cells (x := ⟨st, ck, .slice A k c, L, sA, sn, sc, seen, wA, wn, wc, wl, lA, ln, lc, ll⟩) HG5.out
            simp only at p0 p1 p2 p3 p4 p5
            by_cases hs4 : sn = 4
            · subst hs4
              have cM1 := fun B h W (hk : Kept (fun _ => False) wr W) => mayops_b wA wn wc wl B h W (HX5.out.kept hk).wait HX5.out.n3 (HT5.out.kept hk id id)
              have cM2 := fun B h W (hk : Kept (fun _ => False) wr W) => mayops_b lA ln lc ll B h W (HX5.out.kept hk).log HX5.out.n4 (HT5.out.kept hk id id)
              by_cases hw : opsOk (wl.map (·.o))
              · have c1 := cM1 true (by simp [hw]) wr (Kept.refl _ _)
                by_cases hl : opsOk (ll.map (·.o))
                · have c2 := fun W hk => cM2 true (by simp [hl]) W hk
                  have HH5 := Lib.hid hw
                  have HH6 := Lib.hid hl
                  clear hw hl cM1 cM2
                  go_upto_region 11 with (first
                    | (go_at_call 75; refine c1.mono ?_; clear c1; rintro e w6 ⟨rfl, hk6⟩; have HK6 := Lib.hid hk6; have HG6 := Lib.hid ((hk6.block g (heap_lt HG5.out) id).trans HG5.out); clear hk6 p0 p1 p2 p3 p4 p5; obtain ⟨p0, p1, p2, p3, p4, p5⟩ := site_cells (x := ⟨st, ck, .slice A k c, L, sA, 4, sc, seen, wA, wn, wc, wl, lA, ln, lc, ll⟩) HG6.out; simp only at p0 p1 p2 p3 p4 p5)
                    | (go_at_call 75; refine (c2 _ HK6.out).mono ?_; clear c2; rintro e w7 ⟨rfl, hk7⟩; have HK7 := Lib.hid (HK6.out.trans hk7); have HG7 := Lib.hid ((hk7.block g (heap_lt HG6.out) id).trans HG6.out); clear hk7 p0 p1 p2 p3 p4 p5; obtain ⟨p0, p1, p2, p3, p4, p5⟩ := site_cells (x := ⟨st, ck, .slice A k c, L, sA, 4, sc, seen, wA, wn, wc, wl, lA, ln, lc, ll⟩) HG7.out; simp only at p0 p1 p2 p3 p4 p5))
                  go_wp2_with fail
                  clear p0 p1 p2 p3 p4 p5
                  have HSE := Lib.hid (HX5.out.kept HK7.out).seen
                  have HKD := Lib.hid (HKC.out.trans HK7.out)
                  go_loopw [56] (fun v wq => ∃ j : Nat, j ≤ 4 ∧ v = .int .i64 j ∧ (∀ (i : Nat) (y : Int), i < j → seen[i]? = some y → inV y) ∧ w7 = wq) (fun v _ => 4 - (intOf v).toNat)
                  case atStart => exact ⟨0, Nat.zero_le _, rfl, (fun i y hi => by omega), rfl⟩
                  case round =>
                    obtain ⟨j, hj, rfl, hin, rfl⟩ := hrel
                    have HIN := Lib.hid hin
                    clear hin
                    by_cases hlt2 : j < 4
                    · obtain ⟨sa, y, rfl, hy, f0⟩ := HSE.out.cell hlt2
                      have cW := fun B h W => lwithin_b y 0 2000 B h W
                      have b3 : decide (j < 4) = true := decide_eq_true hlt2
                      have b4 : decide ((j : Int) < 4) = true := decide_eq_true (by omega)
                      have t1 : (0 : Int) ≤ (j : Int) := by omega
                      have t2 : (j : Int) < 4 := by omega
                      have HNX : Hid (inV y → ∀ (i : Nat) (z : Int), i < j + 1 → seen[i]? = some z → inV z) := by
                        show _ → _
                        intro h i z hi hz
                        by_cases e : i = j
                        · subst e
                          have hy : seen[i]? = some y := hy
                          rw [hy] at hz
                          injection hz with hz
                          subst hz
                          exact h
                        · exact HIN.out i z (by omega) hz
                      have HNO : Hid (¬ inV y → R = 1) := by
                        show _ → _
                        intro h
                        exact HR1.out (fun hh => h (hh.seen.2 y (List.mem_of_getElem? hy)))
                      clear hy
                      by_cases hv : inV y
                      · have c1 := cW true (by simp; exact hv)
                        have HX6 := Lib.hid (HNX.out hv)
                        clear hv cW
                        go_wp2_with (go_at_call 74; refine (c1 _).mono ?_; clear c1; rintro e w2 ⟨rfl, hw⟩; have hwx := hw.symm; subst hwx)
                        go_roundw
                        case rel => exact ⟨j + 1, by omega, by go_num, HX6.out, trivial⟩
                        case measure => simp [intOf] <;> omega
                      · have c1 := cW false ⟨(fun h => absurd h (by decide)), fun h => absurd h hv⟩
                        have hr := HNO.out hv
                        subst hr
                        clear hv cW
                        go_wp2_with (go_at_call 74; refine (c1 _).mono ?_; clear c1; rintro e w2 ⟨rfl, hw⟩; have hwx := hw.symm; subst hwx)
                        go_ret
                        exact ⟨rfl, HKD.out⟩
                    · obtain rfl : j = 4 := by omega
                      have hr := HR0.out ⟨HH1.out, HH2.out, HH3.out, HH4.out, vec_of HSN.out (fun i y hi => HIN.out i y (by have h1 := (List.getElem?_eq_some_iff.1 hi).1; simp only at h1; have h2 := HSN.out; omega) hi), HH5.out, HH6.out⟩
                      subst hr
                      go_wp2_with fail
                      go_ret
                      exact ⟨rfl, HKD.out⟩
                · have c2 := fun W hk => cM2 false (by simp [hl]) W hk
                  have hr := HR1.out (fun h => hl h.ll)
                  subst hr
                  clear hw hl cM1 cM2
                  go_wp2_with (first
                    | (go_at_call 75; refine c1.mono ?_; clear c1; rintro e w6 ⟨rfl, hk6⟩; have HK6 := Lib.hid hk6; have HG6 := Lib.hid ((hk6.block g (heap_lt HG5.out) id).trans HG5.out); clear hk6 p0 p1 p2 p3 p4 p5; obtain ⟨p0, p1, p2, p3, p4, p5⟩ := site_cells (x := ⟨st, ck, .slice A k c, L, sA, 4, sc, seen, wA, wn, wc, wl, lA, ln, lc, ll⟩) HG6.out; simp only at p0 p1 p2 p3 p4 p5)
                    | (go_at_call 75; refine (c2 _ HK6.out).mono ?_; clear c2; rintro e w7 ⟨rfl, hk7⟩; have HK7 := Lib.hid (HK6.out.trans hk7); clear hk7))
                  go_ret
                  exact ⟨rfl, HKC.out.trans HK7.out⟩
              · have c1 := cM1 false (by simp [hw]) wr (Kept.refl _ _)
                have hr := HR1.out (fun h => hw h.wl)
                subst hr
                clear hw cM1 cM2
                go_wp2_with (first
                  | (go_at_call 75; refine c1.mono ?_; clear c1; rintro e w6 ⟨rfl, hk6⟩; have HK6 := Lib.hid hk6; clear hk6))
                go_ret
                exact ⟨rfl, HKC.out.trans HK6.out⟩
            · have b3 : ((sn : Int) != 4) = true := by simp; omega
              have b4 : (sn != 4) = true := by simp; omega
              have hr := HR1.out (fun h => hs4 (by have h1 := h.seen.1; have h2 := HSN.out; simp only at h1; omega))
              subst hr
              clear hs4
              go_wp2_with fail
              go_ret
              exact ⟨rfl, HKC.out⟩
      · have cC := fun W (hk : Kept (fun _ => False) w1 W) => ocheck_any L _ W (HX.out.doc.kept hk) HX.out.n1 (HT0.out.kept hk id id)
        rw [if_neg h3] at cC
        have hr := HR1.out (fun h => h3 h.els)
        subst hr
        clear h3
        go_wp2_with (first
          | (go_at_call 74; refine (c1 _).mono ?_; clear c1; rintro e w2 ⟨rfl, hw⟩; have hwx := hw.symm; subst hwx)
          | (go_at_call 74; refine (c2 _).mono ?_; clear c2; rintro e w3 ⟨rfl, hw⟩; have hwx := hw.symm; subst hwx)
          | (go_at_call 39; refine (cC _ (Kept.refl _ _)).mono ?_; clear cC; rintro e w4 ⟨rfl, hk4⟩; have HK4 := Lib.hid (HK0.out.trans hk4); clear hk4))
        go_ret
        exact ⟨rfl, HK4.out⟩
    · have c2 := HW2.out false (by simp [h2])
      have hr := HR1.out (fun h => h2 h.ck)
      subst hr
      clear h1 h2
      go_wp2_with (first
        | (go_at_call 74; refine (c1 _).mono ?_; clear c1; rintro e w2 ⟨rfl, hw⟩; have hwx := hw.symm; subst hwx)
        | (go_at_call 74; refine (c2 _).mono ?_; clear c2; rintro e w3 ⟨rfl, hw⟩; have hwx := hw.symm; subst hwx))
      go_ret
      exact ⟨rfl, HK0.out⟩
  · have c1 := HW1.out false (by simp [h1])
    have hr := HR1.out (fun h => h1 h.st)
    subst hr
    clear h1
    go_wp2_with (first
      | (go_at_call 74; refine (c1 _).mono ?_; clear c1; rintro e w2 ⟨rfl, hw⟩; have hwx := hw.symm; subst hwx))
    go_ret
    exact ⟨rfl, HK0.out⟩
end Go.Proofs.YthkohjijppbliaaDoor
