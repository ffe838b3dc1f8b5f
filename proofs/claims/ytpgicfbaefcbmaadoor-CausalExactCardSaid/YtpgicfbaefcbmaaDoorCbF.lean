/-
  CAUSAL ORDER: Add, of what may not be.
-/
import Derived.Test.YtpgicfbaefcbmaaDoorCaP
set_option linter.unusedVariables false
namespace Go.Proofs.YtpgicfbaefcbmaaDoor
open Go Go.RowKit

set_option maxRecDepth 100000 in
set_option maxHeartbeats 4000000 in
theorem padd_bad (V : Option Addr) (vn vc : Nat) (vs : List Int) (A : Option Addr) (n c : Nat) (al : List OpS) (b : OpS) (w : World) (hv : Nums w V vn vs) (hvn : vn ≤ 17592186044416) (hA : OpsM w A n al) (hn : n ≤ 7000) (hb : OpOk w b) (hT : Tabs w) (hbad : ¬ (Cd.vecOk vs ∧ Cd.opOk b.o ∧ ∀ q ∈ al, Cd.opOk q.o)) :
    Calls Tryd.prog 27 #[.slice V vn vc, .slice A n c, opV b] w fun e w' => e = .returned (.tuple #[.slice none 0 0, .slice none 0 0, .slice none 0 0, .int .i64 1]) ∧ Kept (fun _ => False) w w' := by
  have hk0 : Kept (fun _ => False) w (w.alloc (opO b)) := (Kept.refl _ w).alloc _
  have cM := cmay_any V vn vc vs (w.alloc (opO b)) (hv.kept hk0 (fun _ _ => id)) hvn
  have cO := fun W (hk : Kept (fun _ => False) w W) => may_any b W (hb.kept hk (fun _ _ => id)) (hT.kept hk id id)
  have HK0 := Lib.hid hk0
  have HP : Hid (Op9 (w.alloc (opO b)) ⟨w.heap.size, 0, none⟩ b) := op9_new
  have b7 : decide (8000 < (n : Int)) = false := decide_eq_false (by omega)
  have b9 : decide ((n : Int) > 8000) = false := decide_eq_false (by omega)
  by_cases hvo : Cd.vecOk vs
  · rw [decide_eq_true hvo] at cM
    by_cases hbo : Cd.opOk b.o
    · simp only [if_pos hbo] at cO
      have h4 : vn = 4 := by rw [← hv.1]; exact hvo.1
      subst h4
      have hbs := hbo.2.1
      have hlt0 : (b.o.st - 1).toNat < vs.length := by rw [hvo.1]; omega
      obtain ⟨x, hx⟩ : ∃ x, vs[(b.o.st - 1).toNat]? = some x := ⟨_, List.getElem?_eq_getElem hlt0⟩
      obtain ⟨E, hE⟩ : ∃ E : Bool, decide (b.o.nn ≤ x) = E := ⟨_, rfl⟩
      have cR := fun W (hk : Kept (fun _ => False) w W) => cold_any V vc vs b x W (hv.kept hk (fun _ _ => id)) hbs hx
      rw [hE] at cR
      have HVO := Lib.hid hvo
      have HA := Lib.hid hA
      have HBO := Lib.hid hbo
      have HBAD := Lib.hid hbad
      have HT := Lib.hid hT
      have HLN : Hid (al.length = n) := hA.1
      clear hv hvo hA hb hbo hT hk0 hbs hlt0 hx hE hbad
      unfold opV at cO cR
      unfold opV
      go_enter Tryd.func27, Tryd.ntmps27
      obtain ⟨⟨kd, t, si, t0, s0, rn, st, nn, seen⟩, B, m, mc⟩ := b
      simp only [opO] at *
      go_upto_region 1 with fail
      generalize w.alloc (.cells #[.int .i64 kd, .int .i64 t, .int .i64 si, .int .i64 t0, .int .i64 s0, .int .i64 rn, .int .i64 st, .int .i64 nn, .slice B m mc] 32) = w1 at *
      generalize w.heap.size = pb at *
      go_upto_region 3 with (first
        | (go_at_call 48; refine cM.mono ?_; rintro e w2 ⟨rfl, hk2⟩; have HK2 := Lib.hid (HK0.out.trans hk2); have HP2 := Lib.hid (HP.out.kept hk2 id); obtain ⟨c0, c1, c2, c3, c4, c5, c6, c7, c8⟩ := (HP.out.kept hk2 id).cs; simp only at c0 c1 c2 c3 c4 c5 c6 c7 c8; clear hk2)
        | (go_at_call 39; refine (cO _ HK2.out).mono ?_; rintro e w3 ⟨rfl, hk3⟩; have HK3 := Lib.hid (HK2.out.trans hk3); have HP3 := Lib.hid (HP2.out.kept hk3 id); clear hk3 c0 c1 c2 c3 c4 c5 c6 c7 c8; obtain ⟨c0, c1, c2, c3, c4, c5, c6, c7, c8⟩ := (HP3.out).cs; simp only at c0 c1 c2 c3 c4 c5 c6 c7 c8))
      go_wp2_with (go_at_call 49; refine (cR _ HK3.out).mono ?_; rintro e w4 ⟨rfl, hk4⟩; have HK4 := Lib.hid (HK3.out.trans hk4); have HP4 := Lib.hid (HP3.out.kept hk4 id); clear hk4 c0 c1 c2 c3 c4 c5 c6 c7 c8)
      clear cM cO cR HP HP2 HP3 HK0 HK2 HK3
      go_loopw [10, 31] (fun v i wr => ∃ (k : Nat) (G : Bool), k ≤ n ∧ i = .int .i64 k ∧ v = .bool G ∧ (∀ (j : Nat) (q : OpS), j < k → al[j]? = some q → Cd.opOk q.o) ∧ Kept (fun _ => False) w4 wr) (fun _ i _ => n - (intOf i).toNat)
      case atStart => exact ⟨0, E, Nat.zero_le _, rfl, rfl, (fun j q hj => absurd hj (Nat.not_lt_zero _)), Kept.refl _ _⟩
      case round =>
        obtain ⟨k, G, hk, rfl, rfl, hG, hkept⟩ := hrel
        have HK := Lib.hid (HK4.out.trans hkept)
        have HKr := Lib.hid hkept
        have HG := Lib.hid hG
        have HP5 := Lib.hid (HP4.out.kept hkept id)
        clear hkept hG
        by_cases hlt : k < n
        · obtain ⟨ad, b, rfl, hb, h9, hok⟩ := (HA.out.kept HK.out (fun _ _ => id) (fun _ _ _ _ => id)).at_ hlt
          have HBK := Lib.hid hb
          have hk1 : Kept (fun _ => False) wr (wr.alloc (opO b)) := (Kept.refl _ _).alloc _
          have cM := may_any b (wr.alloc (opO b)) (hok.kept hk1 (fun _ _ => id)) (HT.out.kept (HK.out.trans hk1) id id)
          have HK1 := Lib.hid (HKr.out.trans hk1)
          have HQ : Hid (Op9 (wr.alloc (opO b)) ⟨wr.heap.size, 0, none⟩ b) := op9_new
          have HP6 := Lib.hid (HP5.out.kept hk1 id)
          obtain ⟨c0, c1, c2, c3, c4, c5, c6, c7, c8⟩ := h9
          obtain ⟨⟨kd', t', si', t0', s0', rn', st', nn', seen'⟩, B', m', mc'⟩ := b
          simp only at c0 c1 c2 c3 c4 c5 c6 c7 c8 cM
          have b1 : decide (k < n) = true := decide_eq_true hlt
          have b2 : decide ((k : Int) < (n : Int)) = true := decide_eq_true (by omega)
          have t1 : (0 : Int) ≤ (k : Int) := by omega
          have t2 : (k : Int) < (n : Int) := by omega
          clear hb hok hk1 HP5
          unfold opV at cM
          go_upto_region 7 with fail
          clear c0 c1 c2 c3 c4 c5 c6 c7 c8
          simp only [opO] at HQ HK1 HP6 cM
          generalize wr.alloc (.cells #[.int .i64 kd', .int .i64 t', .int .i64 si', .int .i64 t0', .int .i64 s0', .int .i64 rn', .int .i64 st', .int .i64 nn', .slice B' m' mc'] 32) = w5 at *
          generalize wr.heap.size = ob at *
          obtain ⟨c0, c1, c2, c3, c4, c5, c6, c7, c8⟩ := HQ.out.cs
          simp only at c0 c1 c2 c3 c4 c5 c6 c7 c8
          by_cases hop : Cd.opOk ⟨kd', t', si', t0', s0', rn', st', nn', seen'⟩
          · rw [if_pos hop] at cM
            have HN : Hid (∀ (j : Nat) (q : OpS), j < k + 1 → al[j]? = some q → Cd.opOk q.o) := fun j q hj hq => by
              by_cases e : j = k
              · subst e
                rw [HBK.out] at hq
                injection hq with hq
                rw [← hq]
                exact hop
              · exact HG.out j q (by omega) hq
            clear hop
            go_upto_region 9 with (go_at_call 39; refine cM.mono ?_; rintro e w6 ⟨rfl, hk6⟩; have HK6 := Lib.hid (HK1.out.trans hk6); have HQ6 := Lib.hid (HQ.out.kept hk6 id); have HP7 := Lib.hid (HP6.out.kept hk6 id); clear hk6 c0 c1 c2 c3 c4 c5 c6 c7 c8)
            clear cM
            have c6 := HQ6.out.cs.2.2.2.2.2.2.1
            have c7 := HQ6.out.cs.2.2.2.2.2.2.2.1
            have d6 := HP7.out.cs.2.2.2.2.2.2.1
            have d7 := HP7.out.cs.2.2.2.2.2.2.2.1
            simp only at c6 c7 d6 d7
            cases G
            · by_cases h1 : st' = st
              · have e1 : (st' == st) = true := by rw [h1]; exact beq_self_eq_true _
                by_cases h2 : nn' = nn
                · have e2 : (nn' == nn) = true := by rw [h2]; exact beq_self_eq_true _
                  skip
                  clear h1 h2
                  go_wp2_with fail
                  go_roundw
                  case rel => exact ⟨k + 1, true, by omega, by go_num, rfl, HN.out, HK6.out⟩
                  case measure => simp [intOf] <;> omega
                · have e2 : (nn' == nn) = false := beq_eq_false_iff_ne.2 h2
                  skip
                  clear h1 h2
                  go_wp2_with fail
                  go_roundw
                  case rel => exact ⟨k + 1, false, by omega, by go_num, rfl, HN.out, HK6.out⟩
                  case measure => simp [intOf] <;> omega
              · have e1 : (st' == st) = false := beq_eq_false_iff_ne.2 h1
                skip
                clear h1
                go_wp2_with fail
                go_roundw
                case rel => exact ⟨k + 1, false, by omega, by go_num, rfl, HN.out, HK6.out⟩
                case measure => simp [intOf] <;> omega
            · skip
              go_wp2_with fail
              go_roundw
              case rel => exact ⟨k + 1, true, by omega, by go_num, rfl, HN.out, HK6.out⟩
              case measure => simp [intOf] <;> omega
          · rw [if_neg hop] at cM
            clear hop
            go_wp2_with (go_at_call 39; refine cM.mono ?_; rintro e w6 ⟨rfl, hk6⟩; have HK6 := Lib.hid (HK1.out.trans hk6); clear hk6 c0 c1 c2 c3 c4 c5 c6 c7 c8)
            try simp only [Exit.inBlock, Exit.then]
            refine bodyPost_ret (results_tmp4 rfl _ _ _) rfl ?_
            exact ⟨rfl, HK4.out.trans HK6.out⟩
        · obtain rfl : k = n := by omega
          exact absurd ⟨HVO.out, HBO.out, fun q hq => by
            obtain ⟨i, hi, rfl⟩ := List.getElem_of_mem hq
            exact HG.out i _ (by have := HLN.out; omega) (List.getElem?_eq_getElem hi)⟩ HBAD.out

    · simp only [if_neg hbo] at cO
      clear hv hvn hA hb hT hk0 hvo hbo hbad
      unfold opV at cO
      unfold opV
      go_enter Tryd.func27, Tryd.ntmps27
      obtain ⟨⟨kd, t, si, t0, s0, rn, st, nn, seen⟩, B, m, mc⟩ := b
      simp only [opO] at *
      go_upto_region 1 with fail
      generalize w.alloc (.cells #[.int .i64 kd, .int .i64 t, .int .i64 si, .int .i64 t0, .int .i64 s0, .int .i64 rn, .int .i64 st, .int .i64 nn, .slice B m mc] 32) = w1 at *
      generalize w.heap.size = pb at *
      go_wp2_with (first
        | (go_at_call 48; refine cM.mono ?_; rintro e w2 ⟨rfl, hk2⟩; have HK2 := Lib.hid (HK0.out.trans hk2); obtain ⟨c0, c1, c2, c3, c4, c5, c6, c7, c8⟩ := (HP.out.kept hk2 id).cs; simp only at c0 c1 c2 c3 c4 c5 c6 c7 c8; clear hk2)
        | (go_at_call 39; refine (cO _ HK2.out).mono ?_; rintro e w3 ⟨rfl, hk3⟩; have HK3 := Lib.hid (HK2.out.trans hk3); clear hk3))
      try simp only [Exit.inBlock, Exit.then]
      refine bodyPost_ret (results_tmp4 rfl _ _ _) rfl ?_
      exact ⟨rfl, HK3.out⟩
  · rw [decide_eq_false hvo] at cM
    clear hv hvn hA hb hT hk0 hvo hbad cO
    unfold opV
    go_enter Tryd.func27, Tryd.ntmps27
    obtain ⟨⟨kd, t, si, t0, s0, rn, st, nn, seen⟩, B, m, mc⟩ := b
    simp only [opO] at *
    go_upto_region 1 with fail
    generalize w.alloc (.cells #[.int .i64 kd, .int .i64 t, .int .i64 si, .int .i64 t0, .int .i64 s0, .int .i64 rn, .int .i64 st, .int .i64 nn, .slice B m mc] 32) = w1 at *
    generalize w.heap.size = pb at *
    go_wp2_with (go_at_call 48; refine cM.mono ?_; rintro e w2 ⟨rfl, hk2⟩; have HK2 := Lib.hid (HK0.out.trans hk2); clear hk2)
    try simp only [Exit.inBlock, Exit.then]
    refine bodyPost_ret (results_tmp4 rfl _ _ _) rfl ?_
    exact ⟨rfl, HK2.out⟩
end Go.Proofs.YtpgicfbaefcbmaaDoor
