/-
  REGISTERS, the reference's: what is kept of a great name.
-/
import Derived.Test.YtackgnkajffhiaaDoorReG
set_option linter.unusedVariables false
namespace Go.Proofs.YtackgnkajffhiaaDoor
open Go Go.RowKit

set_option linter.unusedSimpArgs false in
set_option maxRecDepth 100000 in
set_option maxHeartbeats 16000000 in
theorem rkeep_great (v : Value) (M : List RegS) (z : Int) (s : ByteArray) (b d : Bool) (w : World) (h : Sl w v M) (hn : M.length ≤ 90000) (hM : Rs.okB M = true) (hs : mayB s = true) (hT : Tabs w) (h0 : z ≠ 95) (hsm : ¬ Rs.Sm z) (hgr : Rs.Gt z) :
    Calls Tryd.prog 24 #[v, .int .i64 z, .string s, .bool b, .bool d] w fun e w' => TellOk w' w.heap.size (Rs.told M z s b d) e ∧ Kept (fun _ => False) w w' := by
  have hss : s.size ≤ 140737488351232 := by have := mayB_size hs; omega
  have hinc := Rs.inc_of_okB hM
  have cL := fun W (hk : Kept (fun _ => False) w W) => copyregs_any v M W (h.kept hk) (by omega)
  have HK0 := Lib.hid (Kept.refl (fun _ => False) w)
  have HSS := Lib.hid hss
  have HN := Lib.hid hn
  have HINC := Lib.hid hinc
  have HE0 := Lib.hid (told_great M s b d h0 hsm hgr)
  have HT := Lib.hid hT
  have hs4 := mayB_size hs
  obtain ⟨wn, qs, qb, fd, hfd, hqs, hbw⟩ := bh_was M z s b hM hs
  rw [hbw] at HE0
  have cR := fun W (v' : Value) (hv : Sl W v' M) => reg_any v' M (z + 32) W hv (by omega)
  simp only [hfd] at cR
  have cS := fun W => btw_any z 97 122 W
  rw [decide_eq_false (show ¬ (97 ≤ z ∧ z ≤ 122) from hsm)] at cS
  have cG := fun W => btw_any z 65 90 W
  rw [decide_eq_true (show 65 ≤ z ∧ z ≤ 90 from hgr)] at cG
  have b0 : (z == 95) = false := beq_eq_false_iff_ne.2 h0
  have hg1 := hgr.1
  have hg2 := hgr.2
  have b1 : decide (z < 97) = true := decide_eq_true (by omega)
  have e1 : IntKind.i64.wrap (z + 97) = z + 97 := IntWalk.i64_in _ ⟨by omega, by omega⟩
  have e2 : IntKind.i64.wrap (z + 97 - 65) = z + 32 := by rw [IntWalk.i64_in _ ⟨by omega, by omega⟩]; omega
  clear h hn hM hs hT hss hinc h0 hsm hgr hg1 hg2 hfd hbw
  go_enter Tryd.func24, Tryd.ntmps24
  go_upto_region 6 with (first | (go_at_call 6; refine (cL _ HK0.out).mono ?_; clear cL; rintro e w1 ⟨⟨v1, rfl, hs1⟩, hk1⟩; have HS1 := Lib.hid hs1; have HK1 := Lib.hid hk1; clear hs1 hk1) | (go_at_call 36; first | (refine (cS _).mono ?_; clear cS; rintro e w' ⟨rfl, hw⟩; have hw2 := hw.symm; subst hw2) | (refine (cG _).mono ?_; clear cG; rintro e w' ⟨rfl, hw⟩; have hw2 := hw.symm; subst hw2)))
  have hq2 := heap_alloc_new w1 (regO ⟨z, s, b⟩)
  have hk2 : Kept (fun _ => False) w1 (w1.alloc (regO ⟨z, s, b⟩)) := (Kept.refl _ _).alloc _
  have HSQ := Lib.hid (HS1.out.keep hk2)
  have HKQ := Lib.hid (HK1.out.trans hk2)
  have HZQ := Lib.hid hq2
  have HQL : Hid (∀ k, v1.ownBlock = some k → k < w1.heap.size) := fun k hk => (HS1.out.lt k hk).2
  have HQW0 : Hid (w.heap.size ≤ w1.heap.size) := HK1.out.size
  clear hq2 hk2
  simp only [regO] at HSQ HKQ HZQ
  generalize w1.alloc (.cells #[.int .i64 z, .string s, .bool b] 41) = w2 at *
  generalize hqq : w1.heap.size = q at *
  have HQW : Hid (w.heap.size ≤ q) := HQW0.out
  clear hqq
  obtain ⟨⟨p0, p1, p2⟩, f0, f1, f2⟩ := rzs (r := ⟨z, s, b⟩) HZQ.out
  have hz3 : (w2.setCell ⟨q, 0, none⟩ (.int .i64 (z + 32))).heap[q]? = some (regO ⟨z + 32, s, b⟩) := heap_set HZQ.out _
  have hk3 : Kept (fun p => p = q) w2 (w2.setCell ⟨q, 0, none⟩ (.int .i64 (z + 32))) := (Kept.refl (fun p => p = q) w2).setCell (p := ⟨q, 0, none⟩) rfl _
  have HZ3 := Lib.hid hz3
  have HS3 := Lib.hid (HSQ.out.kept hk3 (fun k hk e => by have e : k = q := e; have := HQL.out k hk; omega))
  have HK3 : Hid (Kept (fun _ => False) w (w2.setCell ⟨q, 0, none⟩ (.int .i64 (z + 32)))) := HKQ.out.fresh hk3 (fun p hp e => by have e : p = q := e; have := HQW.out; omega)
  clear hz3 hk3
  go_upto_region 8 with fail
  clear p0 p1 p2 f0 f1 f2
  simp only [regO] at HZ3
  generalize w2.setCell ⟨q, 0, none⟩ (.int .i64 (z + 32)) = w3 at *
  obtain ⟨⟨p0, p1, p2⟩, f0, f1, f2⟩ := rzs (r := ⟨z + 32, s, b⟩) HZ3.out
  go_upto_region 9 with (go_at_call 37; refine (cR _ _ HS3.out.sl).mono ?_; clear p0 p1 p2 f0 f1 f2; rintro e w4 ⟨rfl, hk4⟩; have HK4 := Lib.hid hk4; clear hk4)
  have hp5 := heap_alloc_new w4 (regO ⟨wn, qs, qb⟩)
  have hk5 : Kept (fun _ => False) w3 (w4.alloc (regO ⟨wn, qs, qb⟩)) := HK4.out.trans ((Kept.refl _ _).alloc _)
  have HP5 := Lib.hid hp5
  have HZ5 := Lib.hid (hk5.cellsAt HZ3.out id)
  have HS5 := Lib.hid (HS3.out.keep hk5)
  have HK5 := Lib.hid (HK3.out.trans hk5)
  have HPQ : Hid (w4.heap.size ≠ q) := by show _ ≠ _; have := heap_lt (HK4.out.cellsAt HZ3.out id); omega
  clear hp5 hk5
  simp only [regO] at HP5 HZ5 HS5 HK5
  generalize w4.alloc (.cells #[.int .i64 wn, .string qs, .bool qb] 41) = w5 at *
  generalize w4.heap.size = pp at *
  have ad1 : ∀ u, (Op.stringOp .add qs ⟨#[10]⟩).run Tryd.prog u = .ok (.string (qs ++ ⟨#[10]⟩)) u := fun u => run_string_add_sum u qs ⟨#[10]⟩ (by rw [show (⟨#[10]⟩ : ByteArray).size = 1 from rfl]; omega)
  have ad2 : ∀ u, (Op.stringOp .add (qs ++ ⟨#[10]⟩) s).run Tryd.prog u = .ok (.string (qs ++ ⟨#[10]⟩ ++ s)) u := fun u => run_string_add_sum u _ s (by rw [ByteArray.size_append, show (⟨#[10]⟩ : ByteArray).size = 1 from rfl]; omega)
  have ad3 : ∀ u, (Op.stringOp .add qs ⟨#[]⟩).run Tryd.prog u = .ok (.string (qs ++ ⟨#[]⟩)) u := fun u => run_string_add_sum u qs ⟨#[]⟩ (by rw [show (⟨#[]⟩ : ByteArray).size = 0 from rfl]; omega)
  have ad4 : ∀ u, (Op.stringOp .add (qs ++ ⟨#[]⟩) s).run Tryd.prog u = .ok (.string (qs ++ ⟨#[]⟩ ++ s)) u := fun u => run_string_add_sum u _ s (by rw [ByteArray.size_append, show (⟨#[]⟩ : ByteArray).size = 0 from rfl]; omega)
  have HJ1 : Hid ((qs ++ ⟨#[10]⟩ ++ s).size ≤ 140737488351232) := by show _ ≤ _; rw [ByteArray.size_append, ByteArray.size_append, show (⟨#[10]⟩ : ByteArray).size = 1 from rfl]; omega
  have HJ2 : Hid ((qs ++ ⟨#[]⟩ ++ s).size ≤ 140737488351232) := by show _ ≤ _; rw [ByteArray.size_append, ByteArray.size_append, show (⟨#[]⟩ : ByteArray).size = 0 from rfl]; omega
  obtain ⟨⟨p0, p1, p2⟩, f0, f1, f2⟩ := rzs (r := ⟨z + 32, s, b⟩) HZ5.out
  obtain ⟨⟨g0, g1, g2⟩, h0, h1, h2⟩ := rzs (r := ⟨wn, qs, qb⟩) HP5.out
  clear h0 h1 h2
  by_cases hem : qs = ⟨#[]⟩
  · have HEM := Lib.hid hem
    have hne := empty_toList hem
    clear hem
    cases qb
    · cases b
      · have hjw : jw qs false s false = (qs ++ ⟨#[]⟩ ++ s) := by
          unfold jw; rw [if_neg (fun hc => hc.2 HEM.out)]
        rw [hjw] at HE0
        clear hjw
        go_wp2_with fail
        go_region
        have hz6 : ((w5.setCell ⟨q, 1, none⟩ (.string (qs ++ ⟨#[]⟩ ++ s))).setCell ⟨q, 2, none⟩ (.bool false)).heap[q]? = some (regO ⟨z + 32, (qs ++ ⟨#[]⟩ ++ s), false⟩) := heap_set (heap_set HZ5.out _) _
        have hk6 : Kept (fun p => p = q) w5 ((w5.setCell ⟨q, 1, none⟩ (.string (qs ++ ⟨#[]⟩ ++ s))).setCell ⟨q, 2, none⟩ (.bool false)) := ((Kept.refl (fun p => p = q) w5).setCell (p := ⟨q, 1, none⟩) rfl _).setCell (p := ⟨q, 2, none⟩) rfl _
        have HZ6 := Lib.hid hz6
        have HS6 := Lib.hid (HS5.out.kept hk6 (fun k hk e => by have e : k = q := e; have := HQL.out k hk; omega))
        have HK6 : Hid (Kept (fun _ => False) w ((w5.setCell ⟨q, 1, none⟩ (.string (qs ++ ⟨#[]⟩ ++ s))).setCell ⟨q, 2, none⟩ (.bool false))) := HK5.out.fresh hk6 (fun p hp e => by have e : p = q := e; have := HQW.out; omega)
        clear hz6 hk6 p0 p1 p2 f0 f1 f2 g0 g1 g2 ad1 ad2 ad3 ad4
        simp only [regO] at HZ6
        generalize (w5.setCell ⟨q, 1, none⟩ (.string (qs ++ ⟨#[]⟩ ++ s))).setCell ⟨q, 2, none⟩ (.bool false) = wa at *
        have HZD : Hid (wa.drew.heap[q]? = some (.cells #[.int .i64 (z + 32), .string (qs ++ ⟨#[]⟩ ++ s), .bool false] 41 (0, 0))) := HZ6.out
        have HSD := Lib.hid (HS6.out.keep ((Kept.refl _ wa).drew))
        have HKD := Lib.hid HK6.out.drew
        clear HZ6 HS6 HK6
        generalize wa.drew = w6 at *
        have HZ6 := HZD
        have HS6 := HSD
        have HK6 := HKD
        clear HZD HSD HKD
        have cC := rmay_any (qs ++ ⟨#[]⟩ ++ s) w6 HJ2.out (HT.out.kept HK6.out id id)
        have HJS : Hid ((qs ++ ⟨#[]⟩ ++ s).size ≤ 140737488351232) := HJ2.out
        clear HJ1 HJ2
        generalize (qs ++ ⟨#[]⟩ ++ s) = JJ at *
        obtain ⟨⟨p0, p1, p2⟩, f0, f1, f2⟩ := rzs (r := ⟨z + 32, JJ, false⟩) HZ6.out
        cases hm : mayB JJ with
        | false =>
          rw [hm] at cC
          have HE : Hid (Rs.told M z s false d = none) := by show _ = _; rw [HE0.out, if_neg (by rw [hm]; decide)]; rfl
          clear hm
          go_wp2_with (go_at_call 19; refine cC.mono ?_; clear cC; rintro e w7 ⟨rfl, hk7⟩; have HK7 := Lib.hid hk7; clear hk7)
          go_ret2
          rw [HE.out]
          exact ⟨rfl, HK6.out.trans HK7.out⟩
        | true =>
          rw [hm] at cC
          have HE : Hid (Rs.told M z s false d = some (Rs.put (Rs.put M ⟨z + 32, JJ, false⟩) ⟨34, JJ, false⟩)) := by show _ = _; rw [HE0.out, if_pos hm]; rfl
          clear hm
          go_upto_region 15 with (go_at_call 19; refine cC.mono ?_; clear cC p0 p1 p2 f0 f1 f2; rintro e w7 ⟨rfl, hk7⟩; have HK7 := Lib.hid hk7; clear hk7)
          clear HSQ HKQ HZQ
          have HSQ := Lib.hid (HS6.out.keep HK7.out)
          have HKQ := Lib.hid (HK6.out.trans HK7.out)
          have HZQ := Lib.hid (HK7.out.cellsAt HZ6.out id)
          obtain ⟨⟨p0, p1, p2⟩, f0, f1, f2⟩ := rzs (r := ⟨z + 32, JJ, false⟩) HZQ.out
          have hwa : (Rs.wi M ⟨z + 32, JJ, false⟩).length ≤ 90001 := by have := wi_len M ⟨z + 32, JJ, false⟩; have := HN.out; omega
          go_upto_region 16 with (go_at_call 38; refine (rwith_any v1 M ⟨z + 32, JJ, false⟩ _ HSQ.out.sl (by have := HN.out; omega) HJS.out).mono ?_; clear p0 p1 p2 f0 f1 f2; rintro e w3 ⟨⟨v3, rfl, hs3⟩, hk3⟩; have HS3 := Lib.hid hs3; have HK3 := Lib.hid hk3; clear hs3 hk3)
          have HZ3 := Lib.hid (HK3.out.cellsAt HZQ.out id)
          obtain ⟨⟨p0, p1, p2⟩, f0, f1, f2⟩ := rzs (r := ⟨z + 32, JJ, false⟩) HZ3.out
          have hz4 : (w3.setCell ⟨q, 0, none⟩ (.int .i64 34)).heap[q]? = some (regO ⟨34, JJ, false⟩) := heap_set HZ3.out (.int .i64 34)
          have HZ4 := Lib.hid hz4
          have hk4 : Kept (fun p => p = q) w3 (w3.setCell ⟨q, 0, none⟩ (.int .i64 34)) := (Kept.refl (fun p => p = q) w3).setCell (p := ⟨q, 0, none⟩) rfl _
          have HK4 := Lib.hid hk4
          have HS4 := Lib.hid (HS3.out.kept hk4 (fun k hk hq => by have := (HS3.out.lt k hk).1; have := heap_lt HZQ.out; have hq : k = q := hq; omega))
          clear hk4 hz4
          go_upto_region 17 with fail
          clear p0 p1 p2 f0 f1 f2
          simp only [regO] at HZ4
          generalize w3.setCell ⟨q, 0, none⟩ (.int .i64 34) = w4 at *
          obtain ⟨⟨p0, p1, p2⟩, f0, f1, f2⟩ := rzs (r := ⟨34, JJ, false⟩) HZ4.out
          go_wp2_with (go_at_call 38; refine (rwith_any v3 _ ⟨34, JJ, false⟩ _ HS4.out.sl (by omega) HJS.out).mono ?_; rintro e w5 ⟨⟨v5, rfl, hs5⟩, hk5⟩; have HS5 := Lib.hid hs5; have HK5 := Lib.hid hk5; clear hs5 hk5)
          go_ret2
          refine ⟨?_, (HKQ.out.trans HK3.out).fresh (HK4.out.trans HK5.out.any) (fun p hp e => by have e : p = q := e; have := HQW.out; omega)⟩
          rw [HE.out]
          rw [← Rs.wi_put _ (Rs.inc_put _ HINC.out), ← Rs.wi_put _ HINC.out]
          exact ⟨v5, rfl, HS5.out.mono (Nat.le_trans HKQ.out.size (Nat.le_trans HK3.out.size HK4.out.size))⟩
      · have hjw : jw qs false s true = (qs ++ ⟨#[]⟩ ++ s) := by
          unfold jw; rw [if_neg (fun hc => hc.2 HEM.out)]
        rw [hjw] at HE0
        clear hjw
        go_wp2_with fail
        go_region
        have hz6 : ((w5.setCell ⟨q, 1, none⟩ (.string (qs ++ ⟨#[]⟩ ++ s))).setCell ⟨q, 2, none⟩ (.bool true)).heap[q]? = some (regO ⟨z + 32, (qs ++ ⟨#[]⟩ ++ s), true⟩) := heap_set (heap_set HZ5.out _) _
        have hk6 : Kept (fun p => p = q) w5 ((w5.setCell ⟨q, 1, none⟩ (.string (qs ++ ⟨#[]⟩ ++ s))).setCell ⟨q, 2, none⟩ (.bool true)) := ((Kept.refl (fun p => p = q) w5).setCell (p := ⟨q, 1, none⟩) rfl _).setCell (p := ⟨q, 2, none⟩) rfl _
        have HZ6 := Lib.hid hz6
        have HS6 := Lib.hid (HS5.out.kept hk6 (fun k hk e => by have e : k = q := e; have := HQL.out k hk; omega))
        have HK6 : Hid (Kept (fun _ => False) w ((w5.setCell ⟨q, 1, none⟩ (.string (qs ++ ⟨#[]⟩ ++ s))).setCell ⟨q, 2, none⟩ (.bool true))) := HK5.out.fresh hk6 (fun p hp e => by have e : p = q := e; have := HQW.out; omega)
        clear hz6 hk6 p0 p1 p2 f0 f1 f2 g0 g1 g2 ad1 ad2 ad3 ad4
        simp only [regO] at HZ6
        generalize (w5.setCell ⟨q, 1, none⟩ (.string (qs ++ ⟨#[]⟩ ++ s))).setCell ⟨q, 2, none⟩ (.bool true) = wa at *
        have HZD : Hid (wa.drew.heap[q]? = some (.cells #[.int .i64 (z + 32), .string (qs ++ ⟨#[]⟩ ++ s), .bool true] 41 (0, 0))) := HZ6.out
        have HSD := Lib.hid (HS6.out.keep ((Kept.refl _ wa).drew))
        have HKD := Lib.hid HK6.out.drew
        clear HZ6 HS6 HK6
        generalize wa.drew = w6 at *
        have HZ6 := HZD
        have HS6 := HSD
        have HK6 := HKD
        clear HZD HSD HKD
        have cC := rmay_any (qs ++ ⟨#[]⟩ ++ s) w6 HJ2.out (HT.out.kept HK6.out id id)
        have HJS : Hid ((qs ++ ⟨#[]⟩ ++ s).size ≤ 140737488351232) := HJ2.out
        clear HJ1 HJ2
        generalize (qs ++ ⟨#[]⟩ ++ s) = JJ at *
        obtain ⟨⟨p0, p1, p2⟩, f0, f1, f2⟩ := rzs (r := ⟨z + 32, JJ, true⟩) HZ6.out
        cases hm : mayB JJ with
        | false =>
          rw [hm] at cC
          have HE : Hid (Rs.told M z s true d = none) := by show _ = _; rw [HE0.out, if_neg (by rw [hm]; decide)]; rfl
          clear hm
          go_wp2_with (go_at_call 19; refine cC.mono ?_; clear cC; rintro e w7 ⟨rfl, hk7⟩; have HK7 := Lib.hid hk7; clear hk7)
          go_ret2
          rw [HE.out]
          exact ⟨rfl, HK6.out.trans HK7.out⟩
        | true =>
          rw [hm] at cC
          have HE : Hid (Rs.told M z s true d = some (Rs.put (Rs.put M ⟨z + 32, JJ, true⟩) ⟨34, JJ, true⟩)) := by show _ = _; rw [HE0.out, if_pos hm]; rfl
          clear hm
          go_upto_region 15 with (go_at_call 19; refine cC.mono ?_; clear cC p0 p1 p2 f0 f1 f2; rintro e w7 ⟨rfl, hk7⟩; have HK7 := Lib.hid hk7; clear hk7)
          clear HSQ HKQ HZQ
          have HSQ := Lib.hid (HS6.out.keep HK7.out)
          have HKQ := Lib.hid (HK6.out.trans HK7.out)
          have HZQ := Lib.hid (HK7.out.cellsAt HZ6.out id)
          obtain ⟨⟨p0, p1, p2⟩, f0, f1, f2⟩ := rzs (r := ⟨z + 32, JJ, true⟩) HZQ.out
          have hwa : (Rs.wi M ⟨z + 32, JJ, true⟩).length ≤ 90001 := by have := wi_len M ⟨z + 32, JJ, true⟩; have := HN.out; omega
          go_upto_region 16 with (go_at_call 38; refine (rwith_any v1 M ⟨z + 32, JJ, true⟩ _ HSQ.out.sl (by have := HN.out; omega) HJS.out).mono ?_; clear p0 p1 p2 f0 f1 f2; rintro e w3 ⟨⟨v3, rfl, hs3⟩, hk3⟩; have HS3 := Lib.hid hs3; have HK3 := Lib.hid hk3; clear hs3 hk3)
          have HZ3 := Lib.hid (HK3.out.cellsAt HZQ.out id)
          obtain ⟨⟨p0, p1, p2⟩, f0, f1, f2⟩ := rzs (r := ⟨z + 32, JJ, true⟩) HZ3.out
          have hz4 : (w3.setCell ⟨q, 0, none⟩ (.int .i64 34)).heap[q]? = some (regO ⟨34, JJ, true⟩) := heap_set HZ3.out (.int .i64 34)
          have HZ4 := Lib.hid hz4
          have hk4 : Kept (fun p => p = q) w3 (w3.setCell ⟨q, 0, none⟩ (.int .i64 34)) := (Kept.refl (fun p => p = q) w3).setCell (p := ⟨q, 0, none⟩) rfl _
          have HK4 := Lib.hid hk4
          have HS4 := Lib.hid (HS3.out.kept hk4 (fun k hk hq => by have := (HS3.out.lt k hk).1; have := heap_lt HZQ.out; have hq : k = q := hq; omega))
          clear hk4 hz4
          go_upto_region 17 with fail
          clear p0 p1 p2 f0 f1 f2
          simp only [regO] at HZ4
          generalize w3.setCell ⟨q, 0, none⟩ (.int .i64 34) = w4 at *
          obtain ⟨⟨p0, p1, p2⟩, f0, f1, f2⟩ := rzs (r := ⟨34, JJ, true⟩) HZ4.out
          go_wp2_with (go_at_call 38; refine (rwith_any v3 _ ⟨34, JJ, true⟩ _ HS4.out.sl (by omega) HJS.out).mono ?_; rintro e w5 ⟨⟨v5, rfl, hs5⟩, hk5⟩; have HS5 := Lib.hid hs5; have HK5 := Lib.hid hk5; clear hs5 hk5)
          go_ret2
          refine ⟨?_, (HKQ.out.trans HK3.out).fresh (HK4.out.trans HK5.out.any) (fun p hp e => by have e : p = q := e; have := HQW.out; omega)⟩
          rw [HE.out]
          rw [← Rs.wi_put _ (Rs.inc_put _ HINC.out), ← Rs.wi_put _ HINC.out]
          exact ⟨v5, rfl, HS5.out.mono (Nat.le_trans HKQ.out.size (Nat.le_trans HK3.out.size HK4.out.size))⟩
    · cases b
      · have hjw : jw qs true s false = (qs ++ ⟨#[]⟩ ++ s) := by
          unfold jw; rw [if_neg (fun hc => hc.2 HEM.out)]
        rw [hjw] at HE0
        clear hjw
        go_wp2_with fail
        go_region
        have hz6 : ((w5.setCell ⟨q, 1, none⟩ (.string (qs ++ ⟨#[]⟩ ++ s))).setCell ⟨q, 2, none⟩ (.bool true)).heap[q]? = some (regO ⟨z + 32, (qs ++ ⟨#[]⟩ ++ s), true⟩) := heap_set (heap_set HZ5.out _) _
        have hk6 : Kept (fun p => p = q) w5 ((w5.setCell ⟨q, 1, none⟩ (.string (qs ++ ⟨#[]⟩ ++ s))).setCell ⟨q, 2, none⟩ (.bool true)) := ((Kept.refl (fun p => p = q) w5).setCell (p := ⟨q, 1, none⟩) rfl _).setCell (p := ⟨q, 2, none⟩) rfl _
        have HZ6 := Lib.hid hz6
        have HS6 := Lib.hid (HS5.out.kept hk6 (fun k hk e => by have e : k = q := e; have := HQL.out k hk; omega))
        have HK6 : Hid (Kept (fun _ => False) w ((w5.setCell ⟨q, 1, none⟩ (.string (qs ++ ⟨#[]⟩ ++ s))).setCell ⟨q, 2, none⟩ (.bool true))) := HK5.out.fresh hk6 (fun p hp e => by have e : p = q := e; have := HQW.out; omega)
        clear hz6 hk6 p0 p1 p2 f0 f1 f2 g0 g1 g2 ad1 ad2 ad3 ad4
        simp only [regO] at HZ6
        generalize (w5.setCell ⟨q, 1, none⟩ (.string (qs ++ ⟨#[]⟩ ++ s))).setCell ⟨q, 2, none⟩ (.bool true) = wa at *
        have HZD : Hid (wa.drew.heap[q]? = some (.cells #[.int .i64 (z + 32), .string (qs ++ ⟨#[]⟩ ++ s), .bool true] 41 (0, 0))) := HZ6.out
        have HSD := Lib.hid (HS6.out.keep ((Kept.refl _ wa).drew))
        have HKD := Lib.hid HK6.out.drew
        clear HZ6 HS6 HK6
        generalize wa.drew = w6 at *
        have HZ6 := HZD
        have HS6 := HSD
        have HK6 := HKD
        clear HZD HSD HKD
        have cC := rmay_any (qs ++ ⟨#[]⟩ ++ s) w6 HJ2.out (HT.out.kept HK6.out id id)
        have HJS : Hid ((qs ++ ⟨#[]⟩ ++ s).size ≤ 140737488351232) := HJ2.out
        clear HJ1 HJ2
        generalize (qs ++ ⟨#[]⟩ ++ s) = JJ at *
        obtain ⟨⟨p0, p1, p2⟩, f0, f1, f2⟩ := rzs (r := ⟨z + 32, JJ, true⟩) HZ6.out
        cases hm : mayB JJ with
        | false =>
          rw [hm] at cC
          have HE : Hid (Rs.told M z s false d = none) := by show _ = _; rw [HE0.out, if_neg (by rw [hm]; decide)]; rfl
          clear hm
          go_wp2_with (go_at_call 19; refine cC.mono ?_; clear cC; rintro e w7 ⟨rfl, hk7⟩; have HK7 := Lib.hid hk7; clear hk7)
          go_ret2
          rw [HE.out]
          exact ⟨rfl, HK6.out.trans HK7.out⟩
        | true =>
          rw [hm] at cC
          have HE : Hid (Rs.told M z s false d = some (Rs.put (Rs.put M ⟨z + 32, JJ, true⟩) ⟨34, JJ, true⟩)) := by show _ = _; rw [HE0.out, if_pos hm]; rfl
          clear hm
          go_upto_region 15 with (go_at_call 19; refine cC.mono ?_; clear cC p0 p1 p2 f0 f1 f2; rintro e w7 ⟨rfl, hk7⟩; have HK7 := Lib.hid hk7; clear hk7)
          clear HSQ HKQ HZQ
          have HSQ := Lib.hid (HS6.out.keep HK7.out)
          have HKQ := Lib.hid (HK6.out.trans HK7.out)
          have HZQ := Lib.hid (HK7.out.cellsAt HZ6.out id)
          obtain ⟨⟨p0, p1, p2⟩, f0, f1, f2⟩ := rzs (r := ⟨z + 32, JJ, true⟩) HZQ.out
          have hwa : (Rs.wi M ⟨z + 32, JJ, true⟩).length ≤ 90001 := by have := wi_len M ⟨z + 32, JJ, true⟩; have := HN.out; omega
          go_upto_region 16 with (go_at_call 38; refine (rwith_any v1 M ⟨z + 32, JJ, true⟩ _ HSQ.out.sl (by have := HN.out; omega) HJS.out).mono ?_; clear p0 p1 p2 f0 f1 f2; rintro e w3 ⟨⟨v3, rfl, hs3⟩, hk3⟩; have HS3 := Lib.hid hs3; have HK3 := Lib.hid hk3; clear hs3 hk3)
          have HZ3 := Lib.hid (HK3.out.cellsAt HZQ.out id)
          obtain ⟨⟨p0, p1, p2⟩, f0, f1, f2⟩ := rzs (r := ⟨z + 32, JJ, true⟩) HZ3.out
          have hz4 : (w3.setCell ⟨q, 0, none⟩ (.int .i64 34)).heap[q]? = some (regO ⟨34, JJ, true⟩) := heap_set HZ3.out (.int .i64 34)
          have HZ4 := Lib.hid hz4
          have hk4 : Kept (fun p => p = q) w3 (w3.setCell ⟨q, 0, none⟩ (.int .i64 34)) := (Kept.refl (fun p => p = q) w3).setCell (p := ⟨q, 0, none⟩) rfl _
          have HK4 := Lib.hid hk4
          have HS4 := Lib.hid (HS3.out.kept hk4 (fun k hk hq => by have := (HS3.out.lt k hk).1; have := heap_lt HZQ.out; have hq : k = q := hq; omega))
          clear hk4 hz4
          go_upto_region 17 with fail
          clear p0 p1 p2 f0 f1 f2
          simp only [regO] at HZ4
          generalize w3.setCell ⟨q, 0, none⟩ (.int .i64 34) = w4 at *
          obtain ⟨⟨p0, p1, p2⟩, f0, f1, f2⟩ := rzs (r := ⟨34, JJ, true⟩) HZ4.out
          go_wp2_with (go_at_call 38; refine (rwith_any v3 _ ⟨34, JJ, true⟩ _ HS4.out.sl (by omega) HJS.out).mono ?_; rintro e w5 ⟨⟨v5, rfl, hs5⟩, hk5⟩; have HS5 := Lib.hid hs5; have HK5 := Lib.hid hk5; clear hs5 hk5)
          go_ret2
          refine ⟨?_, (HKQ.out.trans HK3.out).fresh (HK4.out.trans HK5.out.any) (fun p hp e => by have e : p = q := e; have := HQW.out; omega)⟩
          rw [HE.out]
          rw [← Rs.wi_put _ (Rs.inc_put _ HINC.out), ← Rs.wi_put _ HINC.out]
          exact ⟨v5, rfl, HS5.out.mono (Nat.le_trans HKQ.out.size (Nat.le_trans HK3.out.size HK4.out.size))⟩
      · have hjw : jw qs true s true = (qs ++ ⟨#[]⟩ ++ s) := by
          unfold jw; rw [if_neg (fun hc => hc.2 HEM.out)]
        rw [hjw] at HE0
        clear hjw
        go_wp2_with fail
        go_region
        have hz6 : ((w5.setCell ⟨q, 1, none⟩ (.string (qs ++ ⟨#[]⟩ ++ s))).setCell ⟨q, 2, none⟩ (.bool true)).heap[q]? = some (regO ⟨z + 32, (qs ++ ⟨#[]⟩ ++ s), true⟩) := heap_set (heap_set HZ5.out _) _
        have hk6 : Kept (fun p => p = q) w5 ((w5.setCell ⟨q, 1, none⟩ (.string (qs ++ ⟨#[]⟩ ++ s))).setCell ⟨q, 2, none⟩ (.bool true)) := ((Kept.refl (fun p => p = q) w5).setCell (p := ⟨q, 1, none⟩) rfl _).setCell (p := ⟨q, 2, none⟩) rfl _
        have HZ6 := Lib.hid hz6
        have HS6 := Lib.hid (HS5.out.kept hk6 (fun k hk e => by have e : k = q := e; have := HQL.out k hk; omega))
        have HK6 : Hid (Kept (fun _ => False) w ((w5.setCell ⟨q, 1, none⟩ (.string (qs ++ ⟨#[]⟩ ++ s))).setCell ⟨q, 2, none⟩ (.bool true))) := HK5.out.fresh hk6 (fun p hp e => by have e : p = q := e; have := HQW.out; omega)
        clear hz6 hk6 p0 p1 p2 f0 f1 f2 g0 g1 g2 ad1 ad2 ad3 ad4
        simp only [regO] at HZ6
        generalize (w5.setCell ⟨q, 1, none⟩ (.string (qs ++ ⟨#[]⟩ ++ s))).setCell ⟨q, 2, none⟩ (.bool true) = wa at *
        have HZD : Hid (wa.drew.heap[q]? = some (.cells #[.int .i64 (z + 32), .string (qs ++ ⟨#[]⟩ ++ s), .bool true] 41 (0, 0))) := HZ6.out
        have HSD := Lib.hid (HS6.out.keep ((Kept.refl _ wa).drew))
        have HKD := Lib.hid HK6.out.drew
        clear HZ6 HS6 HK6
        generalize wa.drew = w6 at *
        have HZ6 := HZD
        have HS6 := HSD
        have HK6 := HKD
        clear HZD HSD HKD
        have cC := rmay_any (qs ++ ⟨#[]⟩ ++ s) w6 HJ2.out (HT.out.kept HK6.out id id)
        have HJS : Hid ((qs ++ ⟨#[]⟩ ++ s).size ≤ 140737488351232) := HJ2.out
        clear HJ1 HJ2
        generalize (qs ++ ⟨#[]⟩ ++ s) = JJ at *
        obtain ⟨⟨p0, p1, p2⟩, f0, f1, f2⟩ := rzs (r := ⟨z + 32, JJ, true⟩) HZ6.out
        cases hm : mayB JJ with
        | false =>
          rw [hm] at cC
          have HE : Hid (Rs.told M z s true d = none) := by show _ = _; rw [HE0.out, if_neg (by rw [hm]; decide)]; rfl
          clear hm
          go_wp2_with (go_at_call 19; refine cC.mono ?_; clear cC; rintro e w7 ⟨rfl, hk7⟩; have HK7 := Lib.hid hk7; clear hk7)
          go_ret2
          rw [HE.out]
          exact ⟨rfl, HK6.out.trans HK7.out⟩
        | true =>
          rw [hm] at cC
          have HE : Hid (Rs.told M z s true d = some (Rs.put (Rs.put M ⟨z + 32, JJ, true⟩) ⟨34, JJ, true⟩)) := by show _ = _; rw [HE0.out, if_pos hm]; rfl
          clear hm
          go_upto_region 15 with (go_at_call 19; refine cC.mono ?_; clear cC p0 p1 p2 f0 f1 f2; rintro e w7 ⟨rfl, hk7⟩; have HK7 := Lib.hid hk7; clear hk7)
          clear HSQ HKQ HZQ
          have HSQ := Lib.hid (HS6.out.keep HK7.out)
          have HKQ := Lib.hid (HK6.out.trans HK7.out)
          have HZQ := Lib.hid (HK7.out.cellsAt HZ6.out id)
          obtain ⟨⟨p0, p1, p2⟩, f0, f1, f2⟩ := rzs (r := ⟨z + 32, JJ, true⟩) HZQ.out
          have hwa : (Rs.wi M ⟨z + 32, JJ, true⟩).length ≤ 90001 := by have := wi_len M ⟨z + 32, JJ, true⟩; have := HN.out; omega
          go_upto_region 16 with (go_at_call 38; refine (rwith_any v1 M ⟨z + 32, JJ, true⟩ _ HSQ.out.sl (by have := HN.out; omega) HJS.out).mono ?_; clear p0 p1 p2 f0 f1 f2; rintro e w3 ⟨⟨v3, rfl, hs3⟩, hk3⟩; have HS3 := Lib.hid hs3; have HK3 := Lib.hid hk3; clear hs3 hk3)
          have HZ3 := Lib.hid (HK3.out.cellsAt HZQ.out id)
          obtain ⟨⟨p0, p1, p2⟩, f0, f1, f2⟩ := rzs (r := ⟨z + 32, JJ, true⟩) HZ3.out
          have hz4 : (w3.setCell ⟨q, 0, none⟩ (.int .i64 34)).heap[q]? = some (regO ⟨34, JJ, true⟩) := heap_set HZ3.out (.int .i64 34)
          have HZ4 := Lib.hid hz4
          have hk4 : Kept (fun p => p = q) w3 (w3.setCell ⟨q, 0, none⟩ (.int .i64 34)) := (Kept.refl (fun p => p = q) w3).setCell (p := ⟨q, 0, none⟩) rfl _
          have HK4 := Lib.hid hk4
          have HS4 := Lib.hid (HS3.out.kept hk4 (fun k hk hq => by have := (HS3.out.lt k hk).1; have := heap_lt HZQ.out; have hq : k = q := hq; omega))
          clear hk4 hz4
          go_upto_region 17 with fail
          clear p0 p1 p2 f0 f1 f2
          simp only [regO] at HZ4
          generalize w3.setCell ⟨q, 0, none⟩ (.int .i64 34) = w4 at *
          obtain ⟨⟨p0, p1, p2⟩, f0, f1, f2⟩ := rzs (r := ⟨34, JJ, true⟩) HZ4.out
          go_wp2_with (go_at_call 38; refine (rwith_any v3 _ ⟨34, JJ, true⟩ _ HS4.out.sl (by omega) HJS.out).mono ?_; rintro e w5 ⟨⟨v5, rfl, hs5⟩, hk5⟩; have HS5 := Lib.hid hs5; have HK5 := Lib.hid hk5; clear hs5 hk5)
          go_ret2
          refine ⟨?_, (HKQ.out.trans HK3.out).fresh (HK4.out.trans HK5.out.any) (fun p hp e => by have e : p = q := e; have := HQW.out; omega)⟩
          rw [HE.out]
          rw [← Rs.wi_put _ (Rs.inc_put _ HINC.out), ← Rs.wi_put _ HINC.out]
          exact ⟨v5, rfl, HS5.out.mono (Nat.le_trans HKQ.out.size (Nat.le_trans HK3.out.size HK4.out.size))⟩
  · have HEM := Lib.hid hem
    obtain ⟨hne, hne2, hne3⟩ := full_toList hem
    clear hem
    cases qb
    · cases b
      · have hjw : jw qs false s false = (qs ++ ⟨#[]⟩ ++ s) := by
          unfold jw; rw [if_neg (fun hc => Bool.noConfusion hc.1)]
        rw [hjw] at HE0
        clear hjw
        go_wp2_with fail
        go_region
        have hz6 : ((w5.setCell ⟨q, 1, none⟩ (.string (qs ++ ⟨#[]⟩ ++ s))).setCell ⟨q, 2, none⟩ (.bool false)).heap[q]? = some (regO ⟨z + 32, (qs ++ ⟨#[]⟩ ++ s), false⟩) := heap_set (heap_set HZ5.out _) _
        have hk6 : Kept (fun p => p = q) w5 ((w5.setCell ⟨q, 1, none⟩ (.string (qs ++ ⟨#[]⟩ ++ s))).setCell ⟨q, 2, none⟩ (.bool false)) := ((Kept.refl (fun p => p = q) w5).setCell (p := ⟨q, 1, none⟩) rfl _).setCell (p := ⟨q, 2, none⟩) rfl _
        have HZ6 := Lib.hid hz6
        have HS6 := Lib.hid (HS5.out.kept hk6 (fun k hk e => by have e : k = q := e; have := HQL.out k hk; omega))
        have HK6 : Hid (Kept (fun _ => False) w ((w5.setCell ⟨q, 1, none⟩ (.string (qs ++ ⟨#[]⟩ ++ s))).setCell ⟨q, 2, none⟩ (.bool false))) := HK5.out.fresh hk6 (fun p hp e => by have e : p = q := e; have := HQW.out; omega)
        clear hz6 hk6 p0 p1 p2 f0 f1 f2 g0 g1 g2 ad1 ad2 ad3 ad4
        simp only [regO] at HZ6
        generalize (w5.setCell ⟨q, 1, none⟩ (.string (qs ++ ⟨#[]⟩ ++ s))).setCell ⟨q, 2, none⟩ (.bool false) = wa at *
        have HZD : Hid (wa.drew.heap[q]? = some (.cells #[.int .i64 (z + 32), .string (qs ++ ⟨#[]⟩ ++ s), .bool false] 41 (0, 0))) := HZ6.out
        have HSD := Lib.hid (HS6.out.keep ((Kept.refl _ wa).drew))
        have HKD := Lib.hid HK6.out.drew
        clear HZ6 HS6 HK6
        generalize wa.drew = w6 at *
        have HZ6 := HZD
        have HS6 := HSD
        have HK6 := HKD
        clear HZD HSD HKD
        have cC := rmay_any (qs ++ ⟨#[]⟩ ++ s) w6 HJ2.out (HT.out.kept HK6.out id id)
        have HJS : Hid ((qs ++ ⟨#[]⟩ ++ s).size ≤ 140737488351232) := HJ2.out
        clear HJ1 HJ2
        generalize (qs ++ ⟨#[]⟩ ++ s) = JJ at *
        obtain ⟨⟨p0, p1, p2⟩, f0, f1, f2⟩ := rzs (r := ⟨z + 32, JJ, false⟩) HZ6.out
        cases hm : mayB JJ with
        | false =>
          rw [hm] at cC
          have HE : Hid (Rs.told M z s false d = none) := by show _ = _; rw [HE0.out, if_neg (by rw [hm]; decide)]; rfl
          clear hm
          go_wp2_with (go_at_call 19; refine cC.mono ?_; clear cC; rintro e w7 ⟨rfl, hk7⟩; have HK7 := Lib.hid hk7; clear hk7)
          go_ret2
          rw [HE.out]
          exact ⟨rfl, HK6.out.trans HK7.out⟩
        | true =>
          rw [hm] at cC
          have HE : Hid (Rs.told M z s false d = some (Rs.put (Rs.put M ⟨z + 32, JJ, false⟩) ⟨34, JJ, false⟩)) := by show _ = _; rw [HE0.out, if_pos hm]; rfl
          clear hm
          go_upto_region 15 with (go_at_call 19; refine cC.mono ?_; clear cC p0 p1 p2 f0 f1 f2; rintro e w7 ⟨rfl, hk7⟩; have HK7 := Lib.hid hk7; clear hk7)
          clear HSQ HKQ HZQ
          have HSQ := Lib.hid (HS6.out.keep HK7.out)
          have HKQ := Lib.hid (HK6.out.trans HK7.out)
          have HZQ := Lib.hid (HK7.out.cellsAt HZ6.out id)
          obtain ⟨⟨p0, p1, p2⟩, f0, f1, f2⟩ := rzs (r := ⟨z + 32, JJ, false⟩) HZQ.out
          have hwa : (Rs.wi M ⟨z + 32, JJ, false⟩).length ≤ 90001 := by have := wi_len M ⟨z + 32, JJ, false⟩; have := HN.out; omega
          go_upto_region 16 with (go_at_call 38; refine (rwith_any v1 M ⟨z + 32, JJ, false⟩ _ HSQ.out.sl (by have := HN.out; omega) HJS.out).mono ?_; clear p0 p1 p2 f0 f1 f2; rintro e w3 ⟨⟨v3, rfl, hs3⟩, hk3⟩; have HS3 := Lib.hid hs3; have HK3 := Lib.hid hk3; clear hs3 hk3)
          have HZ3 := Lib.hid (HK3.out.cellsAt HZQ.out id)
          obtain ⟨⟨p0, p1, p2⟩, f0, f1, f2⟩ := rzs (r := ⟨z + 32, JJ, false⟩) HZ3.out
          have hz4 : (w3.setCell ⟨q, 0, none⟩ (.int .i64 34)).heap[q]? = some (regO ⟨34, JJ, false⟩) := heap_set HZ3.out (.int .i64 34)
          have HZ4 := Lib.hid hz4
          have hk4 : Kept (fun p => p = q) w3 (w3.setCell ⟨q, 0, none⟩ (.int .i64 34)) := (Kept.refl (fun p => p = q) w3).setCell (p := ⟨q, 0, none⟩) rfl _
          have HK4 := Lib.hid hk4
          have HS4 := Lib.hid (HS3.out.kept hk4 (fun k hk hq => by have := (HS3.out.lt k hk).1; have := heap_lt HZQ.out; have hq : k = q := hq; omega))
          clear hk4 hz4
          go_upto_region 17 with fail
          clear p0 p1 p2 f0 f1 f2
          simp only [regO] at HZ4
          generalize w3.setCell ⟨q, 0, none⟩ (.int .i64 34) = w4 at *
          obtain ⟨⟨p0, p1, p2⟩, f0, f1, f2⟩ := rzs (r := ⟨34, JJ, false⟩) HZ4.out
          go_wp2_with (go_at_call 38; refine (rwith_any v3 _ ⟨34, JJ, false⟩ _ HS4.out.sl (by omega) HJS.out).mono ?_; rintro e w5 ⟨⟨v5, rfl, hs5⟩, hk5⟩; have HS5 := Lib.hid hs5; have HK5 := Lib.hid hk5; clear hs5 hk5)
          go_ret2
          refine ⟨?_, (HKQ.out.trans HK3.out).fresh (HK4.out.trans HK5.out.any) (fun p hp e => by have e : p = q := e; have := HQW.out; omega)⟩
          rw [HE.out]
          rw [← Rs.wi_put _ (Rs.inc_put _ HINC.out), ← Rs.wi_put _ HINC.out]
          exact ⟨v5, rfl, HS5.out.mono (Nat.le_trans HKQ.out.size (Nat.le_trans HK3.out.size HK4.out.size))⟩
      · have hjw : jw qs false s true = (qs ++ ⟨#[10]⟩ ++ s) := by
          unfold jw; rw [if_pos ⟨rfl, HEM.out⟩]
        rw [hjw] at HE0
        clear hjw
        go_wp2_with fail
        go_region
        have hz6 : ((w5.setCell ⟨q, 1, none⟩ (.string (qs ++ ⟨#[10]⟩ ++ s))).setCell ⟨q, 2, none⟩ (.bool true)).heap[q]? = some (regO ⟨z + 32, (qs ++ ⟨#[10]⟩ ++ s), true⟩) := heap_set (heap_set HZ5.out _) _
        have hk6 : Kept (fun p => p = q) w5 ((w5.setCell ⟨q, 1, none⟩ (.string (qs ++ ⟨#[10]⟩ ++ s))).setCell ⟨q, 2, none⟩ (.bool true)) := ((Kept.refl (fun p => p = q) w5).setCell (p := ⟨q, 1, none⟩) rfl _).setCell (p := ⟨q, 2, none⟩) rfl _
        have HZ6 := Lib.hid hz6
        have HS6 := Lib.hid (HS5.out.kept hk6 (fun k hk e => by have e : k = q := e; have := HQL.out k hk; omega))
        have HK6 : Hid (Kept (fun _ => False) w ((w5.setCell ⟨q, 1, none⟩ (.string (qs ++ ⟨#[10]⟩ ++ s))).setCell ⟨q, 2, none⟩ (.bool true))) := HK5.out.fresh hk6 (fun p hp e => by have e : p = q := e; have := HQW.out; omega)
        clear hz6 hk6 p0 p1 p2 f0 f1 f2 g0 g1 g2 ad1 ad2 ad3 ad4
        simp only [regO] at HZ6
        generalize (w5.setCell ⟨q, 1, none⟩ (.string (qs ++ ⟨#[10]⟩ ++ s))).setCell ⟨q, 2, none⟩ (.bool true) = wa at *
        have HZD : Hid (wa.drew.heap[q]? = some (.cells #[.int .i64 (z + 32), .string (qs ++ ⟨#[10]⟩ ++ s), .bool true] 41 (0, 0))) := HZ6.out
        have HSD := Lib.hid (HS6.out.keep ((Kept.refl _ wa).drew))
        have HKD := Lib.hid HK6.out.drew
        clear HZ6 HS6 HK6
        generalize wa.drew = w6 at *
        have HZ6 := HZD
        have HS6 := HSD
        have HK6 := HKD
        clear HZD HSD HKD
        have cC := rmay_any (qs ++ ⟨#[10]⟩ ++ s) w6 HJ1.out (HT.out.kept HK6.out id id)
        have HJS : Hid ((qs ++ ⟨#[10]⟩ ++ s).size ≤ 140737488351232) := HJ1.out
        clear HJ1 HJ2
        generalize (qs ++ ⟨#[10]⟩ ++ s) = JJ at *
        obtain ⟨⟨p0, p1, p2⟩, f0, f1, f2⟩ := rzs (r := ⟨z + 32, JJ, true⟩) HZ6.out
        cases hm : mayB JJ with
        | false =>
          rw [hm] at cC
          have HE : Hid (Rs.told M z s true d = none) := by show _ = _; rw [HE0.out, if_neg (by rw [hm]; decide)]; rfl
          clear hm
          go_wp2_with (go_at_call 19; refine cC.mono ?_; clear cC; rintro e w7 ⟨rfl, hk7⟩; have HK7 := Lib.hid hk7; clear hk7)
          go_ret2
          rw [HE.out]
          exact ⟨rfl, HK6.out.trans HK7.out⟩
        | true =>
          rw [hm] at cC
          have HE : Hid (Rs.told M z s true d = some (Rs.put (Rs.put M ⟨z + 32, JJ, true⟩) ⟨34, JJ, true⟩)) := by show _ = _; rw [HE0.out, if_pos hm]; rfl
          clear hm
          go_upto_region 15 with (go_at_call 19; refine cC.mono ?_; clear cC p0 p1 p2 f0 f1 f2; rintro e w7 ⟨rfl, hk7⟩; have HK7 := Lib.hid hk7; clear hk7)
          clear HSQ HKQ HZQ
          have HSQ := Lib.hid (HS6.out.keep HK7.out)
          have HKQ := Lib.hid (HK6.out.trans HK7.out)
          have HZQ := Lib.hid (HK7.out.cellsAt HZ6.out id)
          obtain ⟨⟨p0, p1, p2⟩, f0, f1, f2⟩ := rzs (r := ⟨z + 32, JJ, true⟩) HZQ.out
          have hwa : (Rs.wi M ⟨z + 32, JJ, true⟩).length ≤ 90001 := by have := wi_len M ⟨z + 32, JJ, true⟩; have := HN.out; omega
          go_upto_region 16 with (go_at_call 38; refine (rwith_any v1 M ⟨z + 32, JJ, true⟩ _ HSQ.out.sl (by have := HN.out; omega) HJS.out).mono ?_; clear p0 p1 p2 f0 f1 f2; rintro e w3 ⟨⟨v3, rfl, hs3⟩, hk3⟩; have HS3 := Lib.hid hs3; have HK3 := Lib.hid hk3; clear hs3 hk3)
          have HZ3 := Lib.hid (HK3.out.cellsAt HZQ.out id)
          obtain ⟨⟨p0, p1, p2⟩, f0, f1, f2⟩ := rzs (r := ⟨z + 32, JJ, true⟩) HZ3.out
          have hz4 : (w3.setCell ⟨q, 0, none⟩ (.int .i64 34)).heap[q]? = some (regO ⟨34, JJ, true⟩) := heap_set HZ3.out (.int .i64 34)
          have HZ4 := Lib.hid hz4
          have hk4 : Kept (fun p => p = q) w3 (w3.setCell ⟨q, 0, none⟩ (.int .i64 34)) := (Kept.refl (fun p => p = q) w3).setCell (p := ⟨q, 0, none⟩) rfl _
          have HK4 := Lib.hid hk4
          have HS4 := Lib.hid (HS3.out.kept hk4 (fun k hk hq => by have := (HS3.out.lt k hk).1; have := heap_lt HZQ.out; have hq : k = q := hq; omega))
          clear hk4 hz4
          go_upto_region 17 with fail
          clear p0 p1 p2 f0 f1 f2
          simp only [regO] at HZ4
          generalize w3.setCell ⟨q, 0, none⟩ (.int .i64 34) = w4 at *
          obtain ⟨⟨p0, p1, p2⟩, f0, f1, f2⟩ := rzs (r := ⟨34, JJ, true⟩) HZ4.out
          go_wp2_with (go_at_call 38; refine (rwith_any v3 _ ⟨34, JJ, true⟩ _ HS4.out.sl (by omega) HJS.out).mono ?_; rintro e w5 ⟨⟨v5, rfl, hs5⟩, hk5⟩; have HS5 := Lib.hid hs5; have HK5 := Lib.hid hk5; clear hs5 hk5)
          go_ret2
          refine ⟨?_, (HKQ.out.trans HK3.out).fresh (HK4.out.trans HK5.out.any) (fun p hp e => by have e : p = q := e; have := HQW.out; omega)⟩
          rw [HE.out]
          rw [← Rs.wi_put _ (Rs.inc_put _ HINC.out), ← Rs.wi_put _ HINC.out]
          exact ⟨v5, rfl, HS5.out.mono (Nat.le_trans HKQ.out.size (Nat.le_trans HK3.out.size HK4.out.size))⟩
    · cases b
      · have hjw : jw qs true s false = (qs ++ ⟨#[10]⟩ ++ s) := by
          unfold jw; rw [if_pos ⟨rfl, HEM.out⟩]
        rw [hjw] at HE0
        clear hjw
        go_wp2_with fail
        go_region
        have hz6 : ((w5.setCell ⟨q, 1, none⟩ (.string (qs ++ ⟨#[10]⟩ ++ s))).setCell ⟨q, 2, none⟩ (.bool true)).heap[q]? = some (regO ⟨z + 32, (qs ++ ⟨#[10]⟩ ++ s), true⟩) := heap_set (heap_set HZ5.out _) _
        have hk6 : Kept (fun p => p = q) w5 ((w5.setCell ⟨q, 1, none⟩ (.string (qs ++ ⟨#[10]⟩ ++ s))).setCell ⟨q, 2, none⟩ (.bool true)) := ((Kept.refl (fun p => p = q) w5).setCell (p := ⟨q, 1, none⟩) rfl _).setCell (p := ⟨q, 2, none⟩) rfl _
        have HZ6 := Lib.hid hz6
        have HS6 := Lib.hid (HS5.out.kept hk6 (fun k hk e => by have e : k = q := e; have := HQL.out k hk; omega))
        have HK6 : Hid (Kept (fun _ => False) w ((w5.setCell ⟨q, 1, none⟩ (.string (qs ++ ⟨#[10]⟩ ++ s))).setCell ⟨q, 2, none⟩ (.bool true))) := HK5.out.fresh hk6 (fun p hp e => by have e : p = q := e; have := HQW.out; omega)
        clear hz6 hk6 p0 p1 p2 f0 f1 f2 g0 g1 g2 ad1 ad2 ad3 ad4
        simp only [regO] at HZ6
        generalize (w5.setCell ⟨q, 1, none⟩ (.string (qs ++ ⟨#[10]⟩ ++ s))).setCell ⟨q, 2, none⟩ (.bool true) = wa at *
        have HZD : Hid (wa.drew.heap[q]? = some (.cells #[.int .i64 (z + 32), .string (qs ++ ⟨#[10]⟩ ++ s), .bool true] 41 (0, 0))) := HZ6.out
        have HSD := Lib.hid (HS6.out.keep ((Kept.refl _ wa).drew))
        have HKD := Lib.hid HK6.out.drew
        clear HZ6 HS6 HK6
        generalize wa.drew = w6 at *
        have HZ6 := HZD
        have HS6 := HSD
        have HK6 := HKD
        clear HZD HSD HKD
        have cC := rmay_any (qs ++ ⟨#[10]⟩ ++ s) w6 HJ1.out (HT.out.kept HK6.out id id)
        have HJS : Hid ((qs ++ ⟨#[10]⟩ ++ s).size ≤ 140737488351232) := HJ1.out
        clear HJ1 HJ2
        generalize (qs ++ ⟨#[10]⟩ ++ s) = JJ at *
        obtain ⟨⟨p0, p1, p2⟩, f0, f1, f2⟩ := rzs (r := ⟨z + 32, JJ, true⟩) HZ6.out
        cases hm : mayB JJ with
        | false =>
          rw [hm] at cC
          have HE : Hid (Rs.told M z s false d = none) := by show _ = _; rw [HE0.out, if_neg (by rw [hm]; decide)]; rfl
          clear hm
          go_wp2_with (go_at_call 19; refine cC.mono ?_; clear cC; rintro e w7 ⟨rfl, hk7⟩; have HK7 := Lib.hid hk7; clear hk7)
          go_ret2
          rw [HE.out]
          exact ⟨rfl, HK6.out.trans HK7.out⟩
        | true =>
          rw [hm] at cC
          have HE : Hid (Rs.told M z s false d = some (Rs.put (Rs.put M ⟨z + 32, JJ, true⟩) ⟨34, JJ, true⟩)) := by show _ = _; rw [HE0.out, if_pos hm]; rfl
          clear hm
          go_upto_region 15 with (go_at_call 19; refine cC.mono ?_; clear cC p0 p1 p2 f0 f1 f2; rintro e w7 ⟨rfl, hk7⟩; have HK7 := Lib.hid hk7; clear hk7)
          clear HSQ HKQ HZQ
          have HSQ := Lib.hid (HS6.out.keep HK7.out)
          have HKQ := Lib.hid (HK6.out.trans HK7.out)
          have HZQ := Lib.hid (HK7.out.cellsAt HZ6.out id)
          obtain ⟨⟨p0, p1, p2⟩, f0, f1, f2⟩ := rzs (r := ⟨z + 32, JJ, true⟩) HZQ.out
          have hwa : (Rs.wi M ⟨z + 32, JJ, true⟩).length ≤ 90001 := by have := wi_len M ⟨z + 32, JJ, true⟩; have := HN.out; omega
          go_upto_region 16 with (go_at_call 38; refine (rwith_any v1 M ⟨z + 32, JJ, true⟩ _ HSQ.out.sl (by have := HN.out; omega) HJS.out).mono ?_; clear p0 p1 p2 f0 f1 f2; rintro e w3 ⟨⟨v3, rfl, hs3⟩, hk3⟩; have HS3 := Lib.hid hs3; have HK3 := Lib.hid hk3; clear hs3 hk3)
          have HZ3 := Lib.hid (HK3.out.cellsAt HZQ.out id)
          obtain ⟨⟨p0, p1, p2⟩, f0, f1, f2⟩ := rzs (r := ⟨z + 32, JJ, true⟩) HZ3.out
          have hz4 : (w3.setCell ⟨q, 0, none⟩ (.int .i64 34)).heap[q]? = some (regO ⟨34, JJ, true⟩) := heap_set HZ3.out (.int .i64 34)
          have HZ4 := Lib.hid hz4
          have hk4 : Kept (fun p => p = q) w3 (w3.setCell ⟨q, 0, none⟩ (.int .i64 34)) := (Kept.refl (fun p => p = q) w3).setCell (p := ⟨q, 0, none⟩) rfl _
          have HK4 := Lib.hid hk4
          have HS4 := Lib.hid (HS3.out.kept hk4 (fun k hk hq => by have := (HS3.out.lt k hk).1; have := heap_lt HZQ.out; have hq : k = q := hq; omega))
          clear hk4 hz4
          go_upto_region 17 with fail
          clear p0 p1 p2 f0 f1 f2
          simp only [regO] at HZ4
          generalize w3.setCell ⟨q, 0, none⟩ (.int .i64 34) = w4 at *
          obtain ⟨⟨p0, p1, p2⟩, f0, f1, f2⟩ := rzs (r := ⟨34, JJ, true⟩) HZ4.out
          go_wp2_with (go_at_call 38; refine (rwith_any v3 _ ⟨34, JJ, true⟩ _ HS4.out.sl (by omega) HJS.out).mono ?_; rintro e w5 ⟨⟨v5, rfl, hs5⟩, hk5⟩; have HS5 := Lib.hid hs5; have HK5 := Lib.hid hk5; clear hs5 hk5)
          go_ret2
          refine ⟨?_, (HKQ.out.trans HK3.out).fresh (HK4.out.trans HK5.out.any) (fun p hp e => by have e : p = q := e; have := HQW.out; omega)⟩
          rw [HE.out]
          rw [← Rs.wi_put _ (Rs.inc_put _ HINC.out), ← Rs.wi_put _ HINC.out]
          exact ⟨v5, rfl, HS5.out.mono (Nat.le_trans HKQ.out.size (Nat.le_trans HK3.out.size HK4.out.size))⟩
      · have hjw : jw qs true s true = (qs ++ ⟨#[10]⟩ ++ s) := by
          unfold jw; rw [if_pos ⟨rfl, HEM.out⟩]
        rw [hjw] at HE0
        clear hjw
        go_wp2_with fail
        go_region
        have hz6 : ((w5.setCell ⟨q, 1, none⟩ (.string (qs ++ ⟨#[10]⟩ ++ s))).setCell ⟨q, 2, none⟩ (.bool true)).heap[q]? = some (regO ⟨z + 32, (qs ++ ⟨#[10]⟩ ++ s), true⟩) := heap_set (heap_set HZ5.out _) _
        have hk6 : Kept (fun p => p = q) w5 ((w5.setCell ⟨q, 1, none⟩ (.string (qs ++ ⟨#[10]⟩ ++ s))).setCell ⟨q, 2, none⟩ (.bool true)) := ((Kept.refl (fun p => p = q) w5).setCell (p := ⟨q, 1, none⟩) rfl _).setCell (p := ⟨q, 2, none⟩) rfl _
        have HZ6 := Lib.hid hz6
        have HS6 := Lib.hid (HS5.out.kept hk6 (fun k hk e => by have e : k = q := e; have := HQL.out k hk; omega))
        have HK6 : Hid (Kept (fun _ => False) w ((w5.setCell ⟨q, 1, none⟩ (.string (qs ++ ⟨#[10]⟩ ++ s))).setCell ⟨q, 2, none⟩ (.bool true))) := HK5.out.fresh hk6 (fun p hp e => by have e : p = q := e; have := HQW.out; omega)
        clear hz6 hk6 p0 p1 p2 f0 f1 f2 g0 g1 g2 ad1 ad2 ad3 ad4
        simp only [regO] at HZ6
        generalize (w5.setCell ⟨q, 1, none⟩ (.string (qs ++ ⟨#[10]⟩ ++ s))).setCell ⟨q, 2, none⟩ (.bool true) = wa at *
        have HZD : Hid (wa.drew.heap[q]? = some (.cells #[.int .i64 (z + 32), .string (qs ++ ⟨#[10]⟩ ++ s), .bool true] 41 (0, 0))) := HZ6.out
        have HSD := Lib.hid (HS6.out.keep ((Kept.refl _ wa).drew))
        have HKD := Lib.hid HK6.out.drew
        clear HZ6 HS6 HK6
        generalize wa.drew = w6 at *
        have HZ6 := HZD
        have HS6 := HSD
        have HK6 := HKD
        clear HZD HSD HKD
        have cC := rmay_any (qs ++ ⟨#[10]⟩ ++ s) w6 HJ1.out (HT.out.kept HK6.out id id)
        have HJS : Hid ((qs ++ ⟨#[10]⟩ ++ s).size ≤ 140737488351232) := HJ1.out
        clear HJ1 HJ2
        generalize (qs ++ ⟨#[10]⟩ ++ s) = JJ at *
        obtain ⟨⟨p0, p1, p2⟩, f0, f1, f2⟩ := rzs (r := ⟨z + 32, JJ, true⟩) HZ6.out
        cases hm : mayB JJ with
        | false =>
          rw [hm] at cC
          have HE : Hid (Rs.told M z s true d = none) := by show _ = _; rw [HE0.out, if_neg (by rw [hm]; decide)]; rfl
          clear hm
          go_wp2_with (go_at_call 19; refine cC.mono ?_; clear cC; rintro e w7 ⟨rfl, hk7⟩; have HK7 := Lib.hid hk7; clear hk7)
          go_ret2
          rw [HE.out]
          exact ⟨rfl, HK6.out.trans HK7.out⟩
        | true =>
          rw [hm] at cC
          have HE : Hid (Rs.told M z s true d = some (Rs.put (Rs.put M ⟨z + 32, JJ, true⟩) ⟨34, JJ, true⟩)) := by show _ = _; rw [HE0.out, if_pos hm]; rfl
          clear hm
          go_upto_region 15 with (go_at_call 19; refine cC.mono ?_; clear cC p0 p1 p2 f0 f1 f2; rintro e w7 ⟨rfl, hk7⟩; have HK7 := Lib.hid hk7; clear hk7)
          clear HSQ HKQ HZQ
          have HSQ := Lib.hid (HS6.out.keep HK7.out)
          have HKQ := Lib.hid (HK6.out.trans HK7.out)
          have HZQ := Lib.hid (HK7.out.cellsAt HZ6.out id)
          obtain ⟨⟨p0, p1, p2⟩, f0, f1, f2⟩ := rzs (r := ⟨z + 32, JJ, true⟩) HZQ.out
          have hwa : (Rs.wi M ⟨z + 32, JJ, true⟩).length ≤ 90001 := by have := wi_len M ⟨z + 32, JJ, true⟩; have := HN.out; omega
          go_upto_region 16 with (go_at_call 38; refine (rwith_any v1 M ⟨z + 32, JJ, true⟩ _ HSQ.out.sl (by have := HN.out; omega) HJS.out).mono ?_; clear p0 p1 p2 f0 f1 f2; rintro e w3 ⟨⟨v3, rfl, hs3⟩, hk3⟩; have HS3 := Lib.hid hs3; have HK3 := Lib.hid hk3; clear hs3 hk3)
          have HZ3 := Lib.hid (HK3.out.cellsAt HZQ.out id)
          obtain ⟨⟨p0, p1, p2⟩, f0, f1, f2⟩ := rzs (r := ⟨z + 32, JJ, true⟩) HZ3.out
          have hz4 : (w3.setCell ⟨q, 0, none⟩ (.int .i64 34)).heap[q]? = some (regO ⟨34, JJ, true⟩) := heap_set HZ3.out (.int .i64 34)
          have HZ4 := Lib.hid hz4
          have hk4 : Kept (fun p => p = q) w3 (w3.setCell ⟨q, 0, none⟩ (.int .i64 34)) := (Kept.refl (fun p => p = q) w3).setCell (p := ⟨q, 0, none⟩) rfl _
          have HK4 := Lib.hid hk4
          have HS4 := Lib.hid (HS3.out.kept hk4 (fun k hk hq => by have := (HS3.out.lt k hk).1; have := heap_lt HZQ.out; have hq : k = q := hq; omega))
          clear hk4 hz4
          go_upto_region 17 with fail
          clear p0 p1 p2 f0 f1 f2
          simp only [regO] at HZ4
          generalize w3.setCell ⟨q, 0, none⟩ (.int .i64 34) = w4 at *
          obtain ⟨⟨p0, p1, p2⟩, f0, f1, f2⟩ := rzs (r := ⟨34, JJ, true⟩) HZ4.out
          go_wp2_with (go_at_call 38; refine (rwith_any v3 _ ⟨34, JJ, true⟩ _ HS4.out.sl (by omega) HJS.out).mono ?_; rintro e w5 ⟨⟨v5, rfl, hs5⟩, hk5⟩; have HS5 := Lib.hid hs5; have HK5 := Lib.hid hk5; clear hs5 hk5)
          go_ret2
          refine ⟨?_, (HKQ.out.trans HK3.out).fresh (HK4.out.trans HK5.out.any) (fun p hp e => by have e : p = q := e; have := HQW.out; omega)⟩
          rw [HE.out]
          rw [← Rs.wi_put _ (Rs.inc_put _ HINC.out), ← Rs.wi_put _ HINC.out]
          exact ⟨v5, rfl, HS5.out.mono (Nat.le_trans HKQ.out.size (Nat.le_trans HK3.out.size HK4.out.size))⟩
end Go.Proofs.YtackgnkajffhiaaDoor
