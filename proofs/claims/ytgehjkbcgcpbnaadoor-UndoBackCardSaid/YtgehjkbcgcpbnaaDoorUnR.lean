/-
  UndoBack: the law's rounds.
-/
import Derived.Test.YtgehjkbcgcpbnaaDoorUnL
set_option linter.unusedVariables false
namespace Go.Proofs.YtgehjkbcgcpbnaaDoor
open Go Go.RowKit

theorem first_may : mayB firstS = true := by decide
theorem small_may : mayB smallS = true := by decide
theorem blk_kept {W W' : World} {b : Nat} {o : Obj} (hk : Kept (fun _ => False) W W') (h : W.heap[b]? = some o) : W'.heap[b]? = some o := (hk.block b (heap_lt h) id).trans h
theorem blk_keptS {T : Nat → Prop} {W W' : World} {b : Nat} {o : Obj} (hk : Kept T W W') (h : W.heap[b]? = some o) (hn : ¬ T b) : W'.heap[b]? = some o := (hk.block b (heap_lt h) hn).trans h
theorem uw_mk {w W : World} {pb : Nat} {p : ScrU} (hp : ScrUOk w p) (hT : Tabs w) (hkp : Kept (fun _ => False) w W) (hpar : PSu W pb p) : Uw w pb p W := ⟨hpar, hp.kept hkp, hT.kept hkp id id, hkp⟩
set_option maxRecDepth 100000 in
set_option maxHeartbeats 16000000 in
theorem undoBack_any (p : ScrU) (w : World) (hp : ScrUOk w p) (hT : Tabs w) : Calls Tryd.prog 4 #[.agg p.cells] w fun e w' => e = .returned (.bool true) ∧ Kept (fun _ => False) w w' := by
  obtain ⟨i0, hi0, hz0, hz1, hz2⟩ := info_parts infoStr7
  have hk0 : Kept (fun _ => False) w (w.alloc (.cells p.cells 27)) := (Kept.refl _ w).alloc _
  have HU0 : Hid (Uw w w.heap.size p (w.alloc (.cells p.cells 27))) := ⟨heap_alloc_new w _, hp.kept hk0, hT.kept hk0 id id, hk0⟩
  have cH := heavy7_any p _ (hp.kept hk0)
  have HTW := Lib.hid hT.two
  have HAG := Lib.hid hp.agood
  have HPW := Lib.hid hp
  have HTT := Lib.hid hT
  clear hk0 hp hT
  obtain ⟨R, rn, rc, nodes, cur, LA, ln, lc, acts⟩ := p
  unfold ScrU.cells at *
  simp only at *
  have p0 := HU0.out.par.c 0
  have p1 := HU0.out.par.c 1
  have p2 := HU0.out.par.c 2
  simp only [ScrU.cells] at p0 p1 p2
  obtain ⟨pb, hpb⟩ : ∃ pb, w.heap.size = pb := ⟨_, rfl⟩
  have HPB := Lib.hid hpb
  simp only [hpb] at HU0 p0 p1 p2
  clear hpb
  go_enter Tryd.func4, Tryd.ntmps4
  go_upto_region 1 with fail
  simp only [HPB.out]
  generalize w.alloc (.cells #[.slice R rn rc, .int .i64 cur, .slice LA ln lc] 27) = w0 at *
  have q0 : w0.cell? ⟨pb, 0, none⟩ = some (.slice R rn rc) := p0
  have q1 : w0.cell? ⟨pb, 1, none⟩ = some (.int .i64 cur) := p1
  have q2 : w0.cell? ⟨pb, 2, none⟩ = some (.slice LA ln lc) := p2
  clear p0 p1 p2
  go_wp2_with (go_at_call 5; refine cH.mono ?_; rintro e w1 ⟨⟨hv, rfl, _⟩, hk1⟩; have HU1 := Lib.hid (HU0.out.kept hk1); clear hk1 cH q0 q1 q2)
  · exact bodyPost_ret (results_tmp rfl _ _ _) rfl ⟨rfl, HU1.out.kp⟩
  have hv0 : hv = false := by assumption
  subst hv0
  have cN := new_any firstS w1 HU1.out.tabs first_may
  unfold firstS at cN
  have hI0 := inv_first firstS first_may
  refine cN.mono ?_
  rintro e w2 ⟨⟨v, rfl, hO⟩, hk2⟩
  obtain ⟨g, cap, rfl, hBg, hog⟩ := hO.og' (n := 1) rfl (by decide)
  have HU2 := Lib.hid (HU1.out.kept hk2)
  have hk3 : Kept (fun _ => False) w2 (w2.alloc (treeO (.slice (some ⟨g, 0, none⟩) 1 cap) 0)) := (Kept.refl _ w2).alloc _
  have HZ3 : Hid (Tz (w2.alloc (treeO (.slice (some ⟨g, 0, none⟩) 1 cap) 0)) w2.heap.size [⟨0, -1, 0, firstS⟩] ((0 : Nat) : Int)) := ⟨_, _, heap_alloc_new w2 _, (hog.kept hk3 id).ng, hog.le⟩
  have HU3 := Lib.hid (HU2.out.kept hk3)
  have HX2 : Hid (1 < w2.heap.size) := HU2.out.tabs.two
  have HPX : Hid (pb < w2.heap.size) := heap_lt HU2.out.par
  clear hk2 hk3 hO hog hBg cN
  go_upto_region 4 with fail
  simp only [treeO] at HZ3 HU3
  generalize w2.alloc _ = w3 at *
  have HXB : Hid (w2.heap.size < w3.heap.size) := by obtain ⟨ad, c, h1, _⟩ := HZ3.out; exact heap_lt h1
  generalize w2.heap.size = xb at *
  have HZ4 := Lib.hid (HZ3.out.kept ((Kept.refl (fun _ => False) w3).alloc (.cells #[.string firstS] 9)))
  have HU4 := Lib.hid (HU3.out.kept ((Kept.refl (fun _ => False) w3).alloc (.cells #[.string firstS] 9)))
  have HS4 : Hid (Ts (w3.alloc (.cells #[.string firstS] 9)) w3.heap.size (.slice (some ⟨w3.heap.size, 0, none⟩) 1 1) [firstS]) := World.ownsRow_lit (base := w3.heap.size) (e := 9) (size := 1) w3 #[.string firstS] 1 (Nat.le_refl _) (by decide) rfl
  unfold firstS at HZ4 HS4 HU4
  go_upto_region 7 with (go_at_call 7; refine (unum_any _ _).mono ?_; rintro e w' ⟨rfl, hw⟩; have hw2 := hw.symm; subst hw2)
  generalize w3.alloc (.cells #[.string ⟨#[102, 105, 114, 115, 116]⟩] 9) = w4 at *
  have HBW : Hid (w.heap.size ≤ w3.heap.size) := HU3.out.kp.size
  generalize w3.heap.size = B at *
  have hI4 : Inv [⟨0, -1, 0, firstS⟩] 0 [firstS] := hI0
  have HI4 := Lib.hid hI4
  clear hI0 hI4 HZ3 HU3
  go_wp2_with fail
  go_loopw [5, 6] (fun sv v wr => ∃ (i c : Nat) (L : List NodeS) (S : List ByteArray) (tv : Value), tv = sv ∧ i ≤ ln ∧ i ≤ 14 ∧ v = .int .i64 i ∧ L.length ≤ i + 1 ∧ Inv L c S ∧ Tz wr xb L (c : Int) ∧ Ts wr B tv S ∧ Uw w pb ⟨R, rn, rc, nodes, cur, LA, ln, lc, acts⟩ wr) (fun _ v _ => ln - (intOf v).toNat)
  case atStart => exact ⟨0, 0, _, _, _, rfl, Nat.zero_le _, Nat.zero_le _, rfl, Nat.le_refl _, HI4.out, HZ4.out, HS4.out, HU4.out⟩
  case round =>
    obtain ⟨i, c, L, S, tv, htv, hi, hi14, rfl, hLi, hInv, hz, hs, hu⟩ := hrel
    subst htv
    clear HZ4 HS4 HU4 HI4
    have HINV := Lib.hid hInv
    have HZ := Lib.hid hz
    have HS := Lib.hid hs
    have HU := Lib.hid hu
    clear hInv hz hs hu
    have p2 : wr.cell? ⟨pb, 2, none⟩ = some (.slice LA ln lc) := HU.out.par.c 2
    by_cases hgo : i < ln ∧ i < 14
    · obtain ⟨g1, g2⟩ := hgo
      have b1 : decide (i < ln) = true := decide_eq_true g1
      have b2 : decide ((i : Int) < (ln : Int)) = true := decide_eq_true (by omega)
      have b3 : decide (i < 14) = true := decide_eq_true g2
      have b4 : decide ((i : Int) < 14) = true := decide_eq_true (by omega)
      obtain ⟨aad, act, rfl, hact, h4⟩ := HPW.out.acts.at_ g1
      have hgd := HAG.out act (List.mem_of_getElem? hact)
      obtain ⟨aDo, aAt, aMost, s⟩ := act
      have hsz : s.size ≤ 140737488351232 := hgd.2.2.2
      have HA4 : Hid (∀ W, Kept (fun _ => False) w W → W.cell? (aad.add (i * 4)) = some (.int .i64 aDo) ∧ W.cell? ⟨(aad.add (i * 4)).block, (aad.add (i * 4)).off + 1, none⟩ = some (.int .i64 aAt)) := fun W h => ⟨(h4.kept h id).c0, (h4.kept h id).c1⟩
      have f3 : wr.cell? ⟨(aad.add (i * 4)).block, (aad.add (i * 4)).off + 3, none⟩ = some (.string s) := (h4.kept HU.out.kp id).c3
      have t1_ : (0 : Int) ≤ (i : Int) := by omega
      have t2_ : (i : Int) < (ln : Int) := by omega
      obtain ⟨ta, tc, hb, hng, htc⟩ := HZ.out
      obtain ⟨t0, t1, t2, t3⟩ := tree_facts hb
      obtain ⟨m, hm⟩ : ∃ m, L.length = m := ⟨_, rfl⟩
      have hcl := HINV.out.lt
      obtain ⟨e0, he0⟩ : ∃ e0, L[c]? = some e0 := ⟨_, List.getElem?_eq_getElem hcl⟩
      have cHe := here_any ta L.length tc L c wr hng htc HU.out.tabs HINV.out.may c e0 (HINV.out.idx hcl) he0
      obtain ⟨lst, hlst, hlq⟩ := HINV.out.last
      have cCm := fun W (hN : Ng W (some ta) L.length L) (hTb : Tabs W) hs0 => commit_any ta L.length tc L c s 0 64 lst W hN htc hTb HINV.out.may hs0 (by omega) (by omega) hlst (by omega)
      have cBd := fun W (hN : Ng W (some ta) L.length L) (hTb : Tabs W) hs0 => commit_bad ta L.length tc L c s 0 64 W hN htc hTb HINV.out.may hs0 hsz (by omega) (by omega)
      have hcmt : cmt L c lst.sq s 0 64 = (L ++ [⟨(L.length : Int), c, 0, s⟩], (L.length : Int)) := by rw [cmt_few (by omega), hlq]
      rw [hcmt] at cCm
      rw [hm] at cHe cCm cBd t0
      rw [hm] at hb hng
      have HNG := Lib.hid hng
      have HBX := Lib.hid hb
      have HM := Lib.hid hm
      have HE0 := Lib.hid he0
      have HCM := Lib.hid cCm
      have HBD := Lib.hid cBd
      have hmle : m ≤ 15 := by omega
      clear hact h4 hgd hb hng htc hcl he0 hlst hlq cCm cBd hcmt hm
      go_upto_region 12 with (go_at_call 10; refine cHe.mono ?_; rintro e w5 ⟨rfl, hk5⟩; have HU5 := Lib.hid (HU.out.kept hk5); have HZ5 := Lib.hid (HZ.out.kept hk5); have HS5 := Lib.hid (HS.out.kept hk5); have HN5 := Lib.hid (HNG.out.kept hk5 (fun _ _ => id)); have HKr5 := Lib.hid hk5; have r0 := cell_kept hk5 t0 id; have r1 := cell_kept hk5 t1 id; clear hk5 cHe t0 t1 t2 t3)
      have HBR5 : Hid (B ≤ w5.heap.size) := by obtain ⟨gg, cc, _, h1, h2⟩ := HS5.out.at_ (by have := HINV.out.len; have := HINV.out.lt; omega); have h3 := h2 0 _ (List.getElem?_eq_getElem (by have := HINV.out.len; have := HINV.out.lt; omega)); have := World.block_lt_of_cell? w5 _ h3; show B ≤ _; simp only at this; omega
      have HBx5 : Hid (w5.heap[xb]? = some (treeO (.slice (some ta) m tc) c)) := blk_kept HKr5.out HBX.out
      obtain ⟨m1, hm1⟩ : ∃ m1, m + 1 = m1 := ⟨_, rfl⟩
      cases hms : mayB s with
      | false =>
        have cB := HBD.out w5 HN5.out HU5.out.tabs hms
        clear hms HCM HBD hm1
        go_upto_region 13 with (go_at_call 18; refine cB.mono ?_; rintro e w6 ⟨rfl, hk6⟩; have HU6 := Lib.hid (HU5.out.kept hk6); have HZ6 := Lib.hid (HZ5.out.kept hk6); have HS6 := Lib.hid (HS5.out.kept hk6); clear hk6 cB)
        go_wp2_with (go_at_call 7; refine (unum_any _ _).mono ?_; rintro e w' ⟨rfl, hw⟩; have hw2 := hw.symm; subst hw2)
        go_roundw
        case rel => exact ⟨i + 1, c, L, S, tv, rfl, by omega, by omega, by go_num, by have := HM.out; omega, HINV.out, HZ6.out.kept ((Kept.refl _ w6).alloc _), HS6.out.kept ((Kept.refl _ w6).alloc _), HU6.out.kept ((Kept.refl _ w6).alloc _)⟩
        case measure => simp [intOf]; omega
      | true =>
        have hinv2 := HINV.out.snoc (s := s) hms (by have := HM.out; omega)
        rw [HM.out] at hinv2
        have cC := HCM.out w5 HN5.out HU5.out.tabs hms
        have hSl := HINV.out.len
        have hlen2 : (L ++ [(⟨(m : Int), (c : Int), 0, s⟩ : NodeS)]).length = m1 := by rw [List.length_append, HM.out, ← hm1]; rfl
        have hLm : (L ++ [(⟨(m : Int), (c : Int), 0, s⟩ : NodeS)])[m]? = some ⟨(m : Int), (c : Int), 0, s⟩ := by rw [List.getElem?_append_right (by have := HM.out; omega), HM.out, Nat.sub_self]; rfl
        have hLc : (L ++ [(⟨(m : Int), (c : Int), 0, s⟩ : NodeS)])[c]? = some e0 := by rw [List.getElem?_append_left (by have := HINV.out.lt; omega)]; exact HE0.out
        obtain ⟨L', hL'⟩ : ∃ L', L ++ [(⟨(m : Int), (c : Int), 0, s⟩ : NodeS)] = L' := ⟨_, rfl⟩
        rw [hL'] at hinv2 cC hlen2 hLm hLc
        have hcm : c < m := by have := HINV.out.lt; have := HM.out; omega
        have HI2 := Lib.hid hinv2
        have HLN := Lib.hid hlen2
        have HLM := Lib.hid hLm
        have HLC := Lib.hid hLc
        have HSL : Hid (S.length = m) := by show _ = _; rw [hSl, HM.out]
        have hm1b : m1 ≤ 16 := by omega
        have HM1 := Lib.hid hm1
        have HMS := Lib.hid hms
        have HBS5 : Hid (B ≤ w5.heap.size) := HBR5.out
        have HBB : Hid (∀ q, tv.ownBlock = some q → B ≤ q ∧ q < w5.heap.size) := ts_lt HS5.out
        clear hms HCM HBD hL' hinv2 hlen2 hLm hLc hSl hm1
        go_upto_region 13 with (go_at_call 18; refine cC.mono ?_; rintro e w6 ⟨⟨v, rfl, hO⟩, hk6⟩; obtain ⟨g6, cap6, rfl, hBg, hog⟩ := hO.og' (n := m1) HLN.out (by have := HM1.out; omega); have HOy6 := Lib.hid hog; have HG6 : Hid (w5.heap.size ≤ g6) := hBg; have HV6 : Hid (w5.heap.size ≤ w6.heap.size) := hk6.size; have HU6 := Lib.hid (HU5.out.kept hk6); have HS6 := Lib.hid (HS5.out.kept hk6); have HBx6 := Lib.hid (blk_kept hk6 HBx5.out); clear hk6 cC hO hog hBg r0 r1)
        have hk7 : Kept (fun _ => False) w6 (w6.alloc (treeO (.slice (some ⟨g6, 0, none⟩) m1 cap6) m)) := (Kept.refl _ w6).alloc _
        have HBy7 : Hid ((w6.alloc (treeO (.slice (some ⟨g6, 0, none⟩) m1 cap6) m)).heap[w6.heap.size]? = some (treeO (.slice (some ⟨g6, 0, none⟩) m1 cap6) m)) := heap_alloc_new w6 _
        have HU7 := Lib.hid (HU6.out.kept hk7)
        have HS7 := Lib.hid (HS6.out.kept hk7)
        have HBx7 := Lib.hid (blk_kept hk7 HBx6.out)
        have HOy7 := Lib.hid (HOy6.out.kept hk7 id)
        clear hk7
        go_upto_region 14 with (go_at_call 7; refine (unum_any _ _).mono ?_; rintro e w' ⟨rfl, hw⟩; have hw2 := hw.symm; subst hw2)
        simp only [treeO] at HBy7 HU7 HS7 HBx7 HOy7
        generalize w6.alloc _ = w7 at *
        have HYB' : Hid (w5.heap.size ≤ w6.heap.size) := HV6.out
        have HYB : Hid (w5.heap.size ≤ w6.heap.size) := HV6.out
        generalize w6.heap.size = yb at *
        have HSy : Hid (yb < w7.heap.size) := heap_lt HBy7.out
        have HBq : Hid (∀ q, tv.ownBlock = some q → xb < q ∧ w.heap.size ≤ q ∧ pb < q ∧ q < g6 ∧ q < yb) := fun q hq => by
          have h1 := HBB.out q hq
          have h2 := HG6.out
          have h3 := HXB.out
          have h4 := HBW.out
          have h5 := HPX.out
          have h6 := HV6.out
          omega
        have HSw := Lib.hid (HS7.out.kept ((Kept.refl (fun _ => False) w7).alloc (.cells #[.string s] 9)))
        have hown : (w7.alloc (.cells #[.string s] 9)).ownsRow B 9 1 tv m (S.map Value.string) := by have h := HSw.out; unfold Ts at h; rw [HSL.out] at h; exact h
        have HB7 : Hid (B ≤ w7.heap.size) := by have h1 := HSy.out; have h2 := HV6.out; have h3 := HS5.out; show B ≤ _; have := HBS5.out; omega
        go_upto_region 15 with (at_builtin; refine wpList_append_own _ rfl _ _ 47 rfl B 9 i0 (.string ⟨#[]⟩) 1 16 Tryd.underlying47 hi0 hz0 hz1 hz2 rfl (by decide) _ _ _ rfl hown ⟨_, 0, none⟩ 1 1 [.string s] rfl rfl ?c1 ?c2 ?c3 ?c4 ?c5 ?_)
        case c1 => exact str_new _ _ _
        case c2 => intro u hu; simp at hu; subst hu; rfl
        case c3 => unfold maxLen; omega
        case c4 => omega
        case c5 => have := HB7.out; simp; omega
        intro tv8 w8 hown8 hgrow8 _
        have hS8 : Ts w8 B tv8 (S ++ [s]) := by unfold Ts; rw [List.length_append, HSL.out, List.map_append]; exact hown8
        have HS8 := Lib.hid hS8
        have hks : Kept (fun k => tv.ownBlock = some k) (w7.alloc (.cells #[.string s] 9)) w8 := ⟨hgrow8.os, hgrow8.tape, hgrow8.output, hgrow8.size, fun k hk hn => hgrow8.block k hk (fun e => hn e.symm)⟩
        have hka : Kept (fun _ => False) w7 (w7.alloc (.cells #[.string s] 9)) := (Kept.refl _ w7).alloc _
        have HKP8 := Lib.hid (Kept.grew (HU7.out.kp.alloc (.cells #[.string s] 9)) hgrow8 (fun q hq => (HBq.out q hq).2.1))
        have HBx8 := Lib.hid (blk_keptS hks (blk_kept hka HBx7.out) (fun e => by have h := HBq.out xb e; omega))
        have HBy8 := Lib.hid (blk_keptS hks (blk_kept hka HBy7.out) (fun e => by have h := HBq.out yb e; omega))
        have HOy8 := Lib.hid ((HOy7.out.kept hka id).kept hks (fun e => by have h := HBq.out g6 e; omega))
        have HU8 := Lib.hid (uw_mk HPW.out HTT.out HKP8.out ((HU7.out.par.kept hka id).kept hks (fun e => by have h := HBq.out pb e; omega)))
        clear hown8 hgrow8 hS8 hks hka hown
        obtain ⟨t0, t1, t2, t3⟩ := tree_facts HBy8.out
        have cB := back_any ⟨g6, 0, none⟩ m1 cap6 L' m w8 HOy8.out.ng HOy8.out.le HU8.out.tabs HI2.out.may m c ⟨(m : Int), (c : Int), 0, s⟩ e0 (HI2.out.idx (by have := HLN.out; have := HM1.out; omega)) (by omega) HLM.out (HI2.out.idx (by have := HLN.out; have := HM1.out; omega)) HLC.out
        have he0s : e0.sq = (c : Int) := HI2.out.sq c e0 HLC.out
        rw [he0s] at cB
        simp only at cB
        clear he0s
        go_upto_region 16 with (go_at_call 19; refine cB.mono ?_; rintro e w9 ⟨⟨v, rfl, hO⟩, hk9⟩; obtain ⟨g9, cap9, rfl, hBg, hog⟩ := hO.og' (n := m1) HLN.out (by have := HM1.out; omega); have HOz9 := Lib.hid hog; have HG9 : Hid (w8.heap.size ≤ g9) := hBg; have HG9s : Hid (w8.heap.size ≤ w9.heap.size) := hk9.size; have HU9 := Lib.hid (HU8.out.kept hk9); have HS9 := Lib.hid (HS8.out.kept hk9); have HBx9 := Lib.hid (blk_kept hk9 HBx8.out); have HBy9 := Lib.hid (blk_kept hk9 HBy8.out); have HOy9 := Lib.hid (HOy8.out.kept hk9 id); clear hk9 cB hO hog hBg t0 t1 t2 t3)
        have hk10 : Kept (fun _ => False) w9 (w9.alloc (treeO (.slice (some ⟨g9, 0, none⟩) m1 cap9) c)) := (Kept.refl _ w9).alloc _
        have HBz10 : Hid ((w9.alloc (treeO (.slice (some ⟨g9, 0, none⟩) m1 cap9) c)).heap[w9.heap.size]? = some (treeO (.slice (some ⟨g9, 0, none⟩) m1 cap9) c)) := heap_alloc_new w9 _
        have HU10 := Lib.hid (HU9.out.kept hk10)
        have HS10 := Lib.hid (HS9.out.kept hk10)
        have HBx10 := Lib.hid (blk_kept hk10 HBx9.out)
        have HBy10 := Lib.hid (blk_kept hk10 HBy9.out)
        have HOy10 := Lib.hid (HOy9.out.kept hk10 id)
        have HOz10 := Lib.hid (HOz9.out.kept hk10 id)
        clear hk10
        go_upto_region 16 with fail
        simp only [treeO] at HU10 HS10 HBx10 HBy10 HOy10 HOz10 HBz10
        generalize w9.alloc _ = w10 at *
        have HZB : Hid (w8.heap.size ≤ w9.heap.size) := HG9s.out
        generalize w9.heap.size = zb at *
        obtain ⟨t0, t1, t2, t3⟩ := tree_facts HBz10.out
        have hIc := HI2.out.cur (d := c) (by have := HLN.out; have := HM1.out; omega)
        have HIC := Lib.hid hIc
        have cG := again_any ⟨g9, 0, none⟩ m1 cap9 L' c w10 HOz10.out.ng HOz10.out.le HU10.out.tabs hIc.may m ⟨(m : Int), (c : Int), 0, s⟩ (by omega) HLM.out rfl (fun k e' hk hk2 => by
          rw [List.getElem?_eq_none (by have := HLN.out; have := HM1.out; omega)] at hk2
          cases hk2)
        simp only at cG
        clear hIc
        go_upto_region 17 with (go_at_call 20; refine cG.mono ?_; rintro e w11 ⟨⟨v, rfl, hO⟩, hk11⟩; obtain ⟨g11, cap11, rfl, hBg, hog⟩ := hO.og' (n := m1) HLN.out (by have := HM1.out; omega); have HOu11 := Lib.hid hog; have HU11 := Lib.hid (HU10.out.kept hk11); have HS11 := Lib.hid (HS10.out.kept hk11); have HBx11 := Lib.hid (blk_kept hk11 HBx10.out); have HBy11 := Lib.hid (blk_kept hk11 HBy10.out); have HOy11 := Lib.hid (HOy10.out.kept hk11 id); have HOz11 := Lib.hid (HOz10.out.kept hk11 id); have HBz11 := Lib.hid (blk_kept hk11 HBz10.out); clear hk11 cG hO hog hBg t0 t1 t2 t3)
        have hk12 : Kept (fun _ => False) w11 (w11.alloc (treeO (.slice (some ⟨g11, 0, none⟩) m1 cap11) m)) := (Kept.refl _ w11).alloc _
        have HBu12 : Hid ((w11.alloc (treeO (.slice (some ⟨g11, 0, none⟩) m1 cap11) m)).heap[w11.heap.size]? = some (treeO (.slice (some ⟨g11, 0, none⟩) m1 cap11) m)) := heap_alloc_new w11 _
        have HU12 := Lib.hid (HU11.out.kept hk12)
        have HS12 := Lib.hid (HS11.out.kept hk12)
        have HBx12 := Lib.hid (blk_kept hk12 HBx11.out)
        have HBy12 := Lib.hid (blk_kept hk12 HBy11.out)
        have HOy12 := Lib.hid (HOy11.out.kept hk12 id)
        have HOz12 := Lib.hid (HOz11.out.kept hk12 id)
        have HBz12 := Lib.hid (blk_kept hk12 HBz11.out)
        have HOu12 := Lib.hid (HOu11.out.kept hk12 id)
        clear hk12
        go_upto_region 17 with fail
        simp only [treeO] at HU12 HS12 HBx12 HBy12 HOy12 HOz12 HBz12 HOu12 HBu12
        generalize w11.alloc _ = w12 at *
        generalize w11.heap.size = ub at *
        obtain ⟨u0, u1, u2, u3⟩ := tree_facts HBu12.out
        obtain ⟨t0, t1, t2, t3⟩ := tree_facts HBy12.out
        have cE := eqtree_yes (.slice (some ⟨g11, 0, none⟩) m1 cap11) (.slice (some ⟨g6, 0, none⟩) m1 cap6) L' m w12 ((HOu12.out.on (Nat.zero_le _)).sn) ((HOy12.out.on (Nat.zero_le _)).sn) (by have := HLN.out; omega)
        go_upto_region 19 with (first | (go_at_call 7; refine (unum_any _ _).mono ?_; rintro e w' ⟨rfl, hw⟩; have hw2 := hw.symm; subst hw2) | (go_at_call 14; refine cE.mono ?_; rintro e w13 ⟨rfl, hk13⟩; have HU13 := Lib.hid (HU12.out.kept hk13); have HS13 := Lib.hid (HS12.out.kept hk13); have HBx13 := Lib.hid (blk_kept hk13 HBx12.out); have HBy13 := Lib.hid (blk_kept hk13 HBy12.out); have HOy13 := Lib.hid (HOy12.out.kept hk13 id); have HOz13 := Lib.hid (HOz12.out.kept hk13 id); have HBz13 := Lib.hid (blk_kept hk13 HBz12.out); clear hk13 cE u0 u1 u2 u3 t0 t1 t2 t3))
        obtain ⟨t0, t1, t2, t3⟩ := tree_facts HBy13.out
        obtain ⟨u0, u1, u2, u3⟩ := tree_facts HBx13.out
        have hgx : g6 ≠ xb := by have h1 := HG6.out; have h2 := HXB.out; have h3 := HBS5.out; have h4 := heap_lt HBx5.out; omega
        have HKX : Hid (∀ v0 v1, Kept (fun q => q = xb) w13 ((w13.setCell ⟨xb, 0, none⟩ v0).setCell ⟨xb, 1, none⟩ v1)) := fun v0 v1 => Kept.tree (g := xb) (S := fun q => q = xb) (Kept.refl (fun q => q = xb) w13) rfl _ _
        have HX14 := Lib.hid (tree_set HBx13.out (.slice (some ⟨g6, 0, none⟩) m1 cap6) m)
        have hwx : w.heap.size ≤ xb := by have h1 := HPX.out; have h2 := HPB.out; omega
        have HKP14 := Lib.hid (HU13.out.kp.fresh (HKX.out (.slice (some ⟨g6, 0, none⟩) m1 cap6) (.int .i64 m)) (fun b hb h => by omega))
        have HU14 := Lib.hid (uw_mk HPW.out HTT.out HKP14.out (HU13.out.par.kept (HKX.out (.slice (some ⟨g6, 0, none⟩) m1 cap6) (.int .i64 m)) (by have := HPX.out; show ¬ pb = xb; omega)))
        have HS14 := Lib.hid (HS13.out.keptS (HKX.out (.slice (some ⟨g6, 0, none⟩) m1 cap6) (.int .i64 m)) (fun k hk h => by have := HXB.out; omega))
        have hyx : yb ≠ xb := by have h1 := heap_lt HBx5.out; have h2 := HV6.out; have h3 := HYB.out; omega
        have hzx : zb ≠ xb := by have h1 := heap_lt HBx8.out; have h3 := HZB.out; omega
        have HBz14 := Lib.hid (blk_keptS (HKX.out (.slice (some ⟨g6, 0, none⟩) m1 cap6) (.int .i64 m)) HBz13.out hzx)
        have HOz14 := Lib.hid (HOz13.out.kept (HKX.out (.slice (some ⟨g6, 0, none⟩) m1 cap6) (.int .i64 m)) (show ¬ g9 = xb by have h1 := HG9.out; have h2 := heap_lt HBx8.out; omega))
        have HOy14 := Lib.hid (HOy13.out.kept (HKX.out (.slice (some ⟨g6, 0, none⟩) m1 cap6) (.int .i64 m)) hgx)
        go_upto_region 20 with fail
        clear t0 t1 t2 t3 u0 u1 u2 u3
        generalize (w13.setCell ⟨xb, 0, none⟩ (.slice (some ⟨g6, 0, none⟩) m1 cap6)).setCell ⟨xb, 1, none⟩ (.int .i64 m) = w14 at *
        have p2 : w14.cell? ⟨pb, 2, none⟩ = some (.slice (some aad) ln lc) := HU14.out.par.c 2
        obtain ⟨f0, f1⟩ := HA4.out w14 HU14.out.kp
        have HPS : Hid (∃ (W : World) (cx : Nat), cx < m1 ∧ True) := ⟨w14, 0, by have := HM1.out; omega, trivial⟩
        by_cases hD : aDo.tmod 2 = 0
        case' pos =>
          have hDD : (aDo.tmod 2 == 0) = true := by rw [hD]; rfl
          clear hD
          obtain ⟨t0, t1, t2, t3⟩ := tree_facts HBz14.out
          obtain ⟨u0, u1, u2, u3⟩ := tree_facts HX14.out
          have HKY : Hid (∀ v0 v1, Kept (fun q => q = xb) w14 ((w14.setCell ⟨xb, 0, none⟩ v0).setCell ⟨xb, 1, none⟩ v1)) := fun v0 v1 => Kept.tree (g := xb) (S := fun q => q = xb) (Kept.refl (fun q => q = xb) w14) rfl _ _
          have HX15 := Lib.hid (tree_set HX14.out (.slice (some ⟨g9, 0, none⟩) m1 cap9) c)
          have HKP15 := Lib.hid (HU14.out.kp.fresh (HKY.out (.slice (some ⟨g9, 0, none⟩) m1 cap9) (.int .i64 c)) (fun b hb h => by omega))
          have HU15 := Lib.hid (uw_mk HPW.out HTT.out HKP15.out (HU14.out.par.kept (HKY.out (.slice (some ⟨g9, 0, none⟩) m1 cap9) (.int .i64 c)) (by have := HPX.out; show ¬ pb = xb; omega)))
          have HS15 := Lib.hid (HS14.out.keptS (HKY.out (.slice (some ⟨g9, 0, none⟩) m1 cap9) (.int .i64 c)) (fun k hk h => by have := HXB.out; omega))
          have HO15 := Lib.hid (HOz14.out.kept (HKY.out (.slice (some ⟨g9, 0, none⟩) m1 cap9) (.int .i64 c)) (show ¬ g9 = xb by have h1 := HG9.out; have h2 := heap_lt HBx8.out; omega))
          have HIX := HIC
          go_upto_region 22 with fail
          clear t0 t1 t2 t3 u0 u1 u2 u3 p2 f0 f1 hDD
          generalize (w14.setCell ⟨xb, 0, none⟩ (.slice (some ⟨g9, 0, none⟩) m1 cap9)).setCell ⟨xb, 1, none⟩ (.int .i64 c) = w15 at *
        case' neg =>
          have hDD : (aDo.tmod 2 == 0) = false := by rw [beq_eq_false_iff_ne]; exact hD
          clear hD
          have HX15 := HX14
          have HU15 := HU14
          have HS15 := HS14
          have HO15 := HOy14
          have HIX := HI2
          go_upto_region 22 with fail
          clear p2 f0 f1 hDD
          obtain ⟨w15, hw15⟩ : ∃ w15, w15 = w14 := ⟨_, rfl⟩
          subst hw15
        all_goals
          have p2 : w15.cell? ⟨pb, 2, none⟩ = some (.slice (some aad) ln lc) := HU15.out.par.c 2
          obtain ⟨f0, f1⟩ := HA4.out w15 HU15.out.kp
          have hSl2 : (S ++ [s]).length = m1 := by rw [List.length_append, HSL.out]; exact HM1.out
          obtain ⟨sg, scap, htv8, hsb, hsc⟩ := HS15.out.at_ (by rw [hSl2]; have := HM1.out; omega)
          rw [hSl2] at htv8
          have HSC := Lib.hid hsc
          have HTV := Lib.hid htv8
          subst htv8
          clear hsb hsc
          have hm1p : 1 ≤ (m1 : Int) := by have := HM1.out; omega
          go_upto_region 23 with (go_at_call 21; refine (within_any _ _ hm1p (by omega) _).mono ?_; rintro e w' ⟨k, hk, rfl, hw⟩; have hw2 := hw.symm; subst hw2)
          clear p2 f0 f1
          obtain ⟨gx, capx, cx, hx15, ho15, hix⟩ : ∃ (gx capx cx : Nat), w15.heap[xb]? = some (treeO (.slice (some ⟨gx, 0, none⟩) m1 capx) cx) ∧ Og w15 gx m1 capx L' ∧ Inv L' cx (S ++ [s]) := ⟨_, _, _, HX15.out, HO15.out, HIX.out⟩
          have HX := Lib.hid hx15
          have HO := Lib.hid ho15
          have HIV := Lib.hid hix
          obtain ⟨t0, t1, t2, t3⟩ := tree_facts hx15
          have hkm : k < m1 := by omega
          obtain ⟨ek, hek⟩ : ∃ ek, L'[k]? = some ek := ⟨_, List.getElem?_eq_getElem (by rw [HLN.out]; exact hkm)⟩
          have hsk : (S ++ [s])[k]? = some ek.tx := by have h := hix.tx k; rw [hek] at h; exact h.symm
          have cJ := jump_any ⟨gx, 0, none⟩ m1 capx L' cx w15 ho15.ng ho15.le HU15.out.tabs hix.may k k ek (hix.idx (by rw [HLN.out]; exact hkm)) hek
          have sc := HSC.out k ek.tx hsk
          clear hx15 ho15 hix hek hsk HSC
          go_upto_region 24 with (go_at_call 22; refine cJ.mono ?_; rintro e w16 ⟨⟨v, rfl, hO⟩, hk16⟩; obtain ⟨g16, cap16, rfl, hBg, hog⟩ := hO.og' (n := m1) HLN.out (by have := HM1.out; omega); have HKJ : Hid (Kept (fun _ => False) w15 (w16.alloc (treeO (.slice (some ⟨g16, 0, none⟩) m1 cap16) ek.sq))) := hk16.alloc _; clear hk16 cJ hO hog hBg t0 t1 t2 t3)
          simp only [treeO] at HKJ
          generalize w16.alloc _ = w17 at *
          have sc17 := cell_kept HKJ.out sc id
          have HU17 := Lib.hid (HU15.out.kept HKJ.out)
          have HS17 := Lib.hid (HS15.out.kept HKJ.out)
          have HX17 := Lib.hid (blk_kept HKJ.out HX.out)
          have HO17 := Lib.hid (HO.out.kept HKJ.out id)
          have k1 : (0 : Int) ≤ (k : Int) := by omega
          have k2 : (k : Int) < (m1 : Int) := by omega
          clear sc
          go_upto_region 26 with (first | (go_at_call 7; refine (unum_any _ _).mono ?_; rintro e w' ⟨rfl, hw⟩; have hw2 := hw.symm; subst hw2))
          clear sc17 k1 k2
          obtain ⟨t0, t1, t2, t3⟩ := tree_facts HX17.out
          obtain ⟨lst, hlst, hlq⟩ := HIV.out.last
          have hL1 := HLN.out
          have cS := commit_any ⟨gx, 0, none⟩ m1 capx L' cx smallS 0 2 lst w17 HO17.out.ng HO17.out.le HU17.out.tabs HIV.out.may small_may (by omega) (by omega) hlst (by omega)
          have hc2 : (cmt L' cx lst.sq smallS 0 2).1.length = 2 := cmt_two (by omega)
          obtain ⟨⟨CL, CC⟩, hCT⟩ : ∃ CT, cmt L' cx lst.sq smallS 0 2 = CT := ⟨_, rfl⟩
          rw [hCT] at cS hc2
          unfold smallS at cS
          simp only at cS hc2
          have HC2 := Lib.hid hc2
          clear hlst hlq hCT hc2 hL1
          go_upto_region 27 with (go_at_call 18; refine cS.mono ?_; rintro e w18 ⟨⟨v, rfl, hO⟩, hk18⟩; obtain ⟨g18, cap18, rfl, hBg, hog⟩ := hO.og' (n := 2) HC2.out (by omega); have HKJ2 : Hid (Kept (fun _ => False) w17 (w18.alloc (treeO (.slice (some ⟨g18, 0, none⟩) 2 cap18) CC))) := hk18.alloc _; have HB19 : Hid ((w18.alloc (treeO (.slice (some ⟨g18, 0, none⟩) 2 cap18) CC)).heap[w18.heap.size]? = some (treeO (.slice (some ⟨g18, 0, none⟩) 2 cap18) CC)) := heap_alloc_new w18 _; clear hk18 cS hO hog hBg t0 t1 t2 t3)
          simp only [treeO] at HKJ2 HB19
          generalize w18.alloc _ = w19 at *
          generalize w18.heap.size = vb at *
          obtain ⟨t0, t1, t2, t3⟩ := tree_facts HB19.out
          have HU19 := Lib.hid (HU17.out.kept HKJ2.out)
          have HS19 := Lib.hid (HS17.out.kept HKJ2.out)
          have HX19 := Lib.hid (blk_kept HKJ2.out HX17.out)
          have HO19 := Lib.hid (HO17.out.kept HKJ2.out id)
          go_wp2_with (first | (go_at_call 7; refine (unum_any _ _).mono ?_; rintro e w' ⟨rfl, hw⟩; have hw2 := hw.symm; subst hw2))
          go_roundw
          case rel => exact ⟨i + 1, cx, L', S ++ [s], _, rfl, by omega, by omega, by go_num, by have h1 := HLN.out; have h2 := HM1.out; have h3 := HM.out; omega, HIV.out, ⟨⟨gx, 0, none⟩, capx, by rw [HLN.out]; exact HX19.out, by rw [HLN.out]; exact HO19.out.ng, by rw [HLN.out]; exact HO19.out.le⟩, HS19.out, HU19.out⟩
          case measure => simp [intOf]; omega
    · have hlast : (i = ln ∧ i < 14) ∨ (i < ln ∧ i = 14) ∨ (i = ln ∧ i = 14) := by omega
      have cW := uwakes_any wr HU.out.tabs
      rcases hlast with ⟨h1, h2⟩ | ⟨h1, h2⟩ | ⟨h1, h2⟩
      case' inl | inr.inr => have b1 : decide (i < ln) = false := by simp; omega
      case' inr.inl =>
        have b1 : decide (i < ln) = true := by simp; omega
        have b2 : decide (i < 14) = false := by simp; omega
        have b3 : decide ((i : Int) < 14) = false := by simp; omega
      all_goals
        clear h1 h2
        go_wp2_with (go_at_call 17; refine cW.mono ?_; rintro e w9 ⟨rfl, hk9⟩)
        go_ret
        exact ⟨rfl, HU.out.kp.trans hk9⟩
end Go.Proofs.YtgehjkbcgcpbnaaDoor
