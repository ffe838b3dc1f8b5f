/-
  HistoryExact: the law's walk.
-/
import Derived.Test.YthbfmdnibijapaaDoorHz28
set_option linter.unusedVariables false
namespace Go.Proofs.YthbfmdnibijapaaDoor
open Go Go.RowKit

theorem Hx.low {B B' most hb : Nat} {L : List NodeS} {cur k : Int} {W : World} (h : Hx B most hb L cur k W) (hB : B' ≤ B) : Hx B' most hb L cur k W := by
  obtain ⟨ad, cp, mb, kv, h1, h2, h3, h4⟩ := h.q
  exact ⟨⟨ad, cp, mb, kv, h1, h2, Nat.le_trans hB h3, h4⟩, h.tr, h.mt, Nat.le_trans hB h.lo⟩
/-- The tree that the law goes on with. -/
structure Tq (tb : Nat) (L : List NodeS) (cur : Int) (v : Value) (W : World) : Prop where
  bx : W.heap[tb]? = some (treeO v cur)
  on : On W 0 v L
theorem On.keptK {S : Nat → Prop} {w w' : World} {B : Nat} {v : Value} {L : List NodeS} (h : On w B v L) (hk : Kept S w w') (hs : ∀ q cs, w.heap[q]? = some (.cells cs 46 (0, 0)) → ¬ S q) : On w' B v L := by
  refine ⟨h.1, ?_⟩
  rcases h.2 with hn | ⟨g, cap, cur, e, hb, hg, rest⟩
  · exact .inl hn
  · exact .inr ⟨g, cap, cur, e, hb, (hk.block g (heap_lt hg) (hs g _ hg)).trans hg, rest⟩
theorem Tq.kept {tb : Nat} {L : List NodeS} {cur : Int} {v : Value} {W W' : World} (h : Tq tb L cur v W) (hk : Kept (fun _ => False) W W') : Tq tb L cur v W' := ⟨(hk.block _ (heap_lt h.bx) id).trans h.bx, h.on.kept hk⟩
theorem Hx.bx {B most hb : Nat} {L : List NodeS} {cur k : Int} {W : World} (h : Hx B most hb L cur k W) : ∃ cs, W.heap[hb]? = some (.cells cs 71 (0, 0)) := by
  obtain ⟨ad, cp, mb, kv, hq, _⟩ := h.q
  exact ⟨_, hq.box⟩
/-- Blocks of another type are left by a history's call. -/
theorem KM.far {B hb : Nat} {W w' : World} (hk : KM B hb W w') (hx : ∃ cs, W.heap[hb]? = some (.cells cs 71 (0, 0))) {q : Nat} {cs : Array Value} {t : TypeId} (hq : W.heap[q]? = some (.cells cs t (0, 0))) (ht : t ≠ 71) : w'.heap[q]? = some (.cells cs t (0, 0)) := by
  refine (hk.block q (heap_lt hq) (fun e => ?_)).trans hq
  rcases e with e | ⟨_, es, cl, e⟩
  · obtain ⟨cs', h'⟩ := hx
    exact block_ne hq h' ht e
  · rw [hq] at e; cases e
theorem Tq.km {tb : Nat} {L : List NodeS} {cur : Int} {v : Value} {B hb : Nat} {W w' : World} (h : Tq tb L cur v W) (hk : KM B hb W w') (hx : ∃ cs, W.heap[hb]? = some (.cells cs 71 (0, 0))) : Tq tb L cur v w' := by
  refine ⟨hk.far hx h.bx (by decide), h.on.keptK hk (fun q cs hq e => ?_)⟩
  rcases e with e | ⟨_, es, cl, e⟩
  · obtain ⟨cs', h'⟩ := hx
    exact block_ne hq h' (by decide) e
  · rw [hq] at e; cases e
theorem Ux.km {w : World} {pb B hb : Nat} {p : ScrU} {W W' : World} (h : Ux w pb B p W) (hB : B ≤ hb) (hk : KM B hb W W') : Ux w pb B p W' := h.step (hk.mono (fun q _ e => by rcases e with e | e <;> omega))
/-- A history under stores into blocks of other types. -/
theorem Hx.keptT {B most hb : Nat} {L : List NodeS} {cur k : Int} {S : Nat → Prop} {W W' : World} (h : Hx B most hb L cur k W) (hk : Kept S W W') (hB : 1 < B) (hS : ∀ q, S q → B ≤ q ∧ ∃ cs t, W.heap[q]? = some (.cells cs t (0, 0)) ∧ t ≠ 71 ∧ cs.size ≤ 3) : Hx B most hb L cur k W' := by
  obtain ⟨ad, cp, mb, kv, hq, h2, h3, h4⟩ := h.q
  have hge := h.mt.ge
  refine ⟨⟨ad, cp, mb, kv, ⟨hq.tabs.kept hk (fun e => by have := (hS _ e).1; omega) (fun e => by have := (hS _ e).1; omega), (hk.block _ (heap_lt hq.box) (fun e => ?_)).trans hq.box, hq.ng.kept hk (fun a ha e => ?_), hq.mp.kept hk (fun e => ?_), hq.lo⟩, h2, h3, h4⟩, h.tr, h.mt, h.lo⟩
  · obtain ⟨_, cs, t, h5, h6, _⟩ := hS _ e
    exact block_ne h5 hq.box h6 rfl
  · injection ha with ha
    subst ha
    obtain ⟨_, cs, t, h5, h6, h7⟩ := hS _ e
    obtain ⟨x, hx⟩ : ∃ x, (blank L)[0]? = some x := ⟨_, List.getElem?_eq_getElem (by omega)⟩
    have h8 := (hq.ng.nd hx).2.c3
    have h9 : (ad.add (0 * 4)).block = ad.block := by unfold Addr.add; split <;> rfl
    rw [h9, cell_of_row _ _ _ _ _ _ h5, Array.getElem?_eq_none (by omega)] at h8
    cases h8
  · obtain ⟨_, cs, t, h5, _⟩ := hS _ e
    obtain ⟨es, cl, h6, _⟩ := hq.mp
    rw [h5] at h6
    cases h6
theorem act_facts4 {W : World} {g : Nat} {a : NodeS} (h : W.heap[g]? = some (actO8 a)) : W.cell? ⟨g, 0, none⟩ = some (.int .i64 a.sq) ∧ W.cell? ⟨g, 1, none⟩ = some (.int .i64 a.pa) ∧ W.cell? ⟨g, 2, none⟩ = some (.int .i64 a.at_) ∧ W.cell? ⟨g, 3, none⟩ = some (.string a.tx) :=
  ⟨cell_of_row _ _ _ _ _ _ h, cell_of_row _ _ _ _ _ _ h, cell_of_row _ _ _ _ _ _ h, cell_of_row _ _ _ _ _ _ h⟩
/-- Behind the switch. -/
def JS (tb yb : Nat) (L : List NodeS) (cur : Int) (otx : ByteArray) (oat oer : Int) (oL : List NodeS) (ocur : Int) (on : Nat) (x y u : Value) (w7 wx : World) : Prop :=
  x = .string otx ∧ y = .int .i64 oat ∧ u = .int .i64 oer ∧ Kept (fun q => q = tb ∨ q = yb) w7 wx ∧
  ((oer = 0 ∧ ∃ (ct : Int) (vt : Value) (A2 : Option Addr) (n2 c2 : Nat) (U D : List PatS), wx.heap[tb]? = some (treeO vt ct) ∧ wx.heap[yb]? = some (treeO (.slice A2 n2 c2) ocur) ∧ On wx 0 (.slice A2 n2 c2) oL ∧ Way (treeG oL) ct ocur U D ∧ on = U.length + D.length) ∨
   (oer ≠ 0 ∧ on = 0 ∧ ∃ vt, Tq tb oL ocur vt wx))
theorem On.ngs {W : World} {B n c : Nat} {ad : Addr} {L : List NodeS} (h : On W B (.slice (some ad) n c) L) : Ng W (some ad) n L := by
  obtain ⟨A, n', c', e, h1, _⟩ := h.sn
  injection e with e1 e2 e3
  subst e2
  rw [e1]
  exact h1
theorem On.adt {W : World} {B n c : Nat} {ad : Addr} {L : List NodeS} (h : On W B (.slice (some ad) n c) L) : ∃ cs, W.heap[ad.block]? = some (.cells cs 46 (0, 0)) := by
  rcases h.2 with ⟨hn, _⟩ | ⟨g, cap, cur, e, hb, hg, rest⟩
  · cases hn
  · injection e with e1
    injection e1 with e1
    subst e1
    exact ⟨_, hg⟩
theorem way_pos {G : Int → Option (Int × PatS × PatS)} {f t : Int} {U D : List PatS} (h : Way G f t U D) : 0 ≤ t → 0 ≤ f := by
  induction h with
  | done z => exact id
  | up h1 hg hq hr ih => intro ht; omega
  | down h1 hg hq hr ih => intro ht; exact ih hq.1
theorem Hst.keptT {B most hb : Nat} {L : List NodeS} {cur k : Int} {i : Nat} {S : Nat → Prop} {W W' : World} (h : Hst B most hb L cur k i W) (hk : Kept S W W') (hB : 1 < B) (hS : ∀ q, S q → B ≤ q ∧ ∃ cs t, W.heap[q]? = some (.cells cs t (0, 0)) ∧ t ≠ 71 ∧ cs.size ≤ 3) : Hst B most hb L cur k i W' := ⟨h.hx.keptT hk hB hS, h.t9, h.le, h.la, h.kb⟩
theorem walk_form {f : Nat} {args : Array Value} {L : List NodeS} {cur : Int} {D : WR} {otx : ByteArray} {oat oer : Int} {oL : List NodeS} {ocur : Int} {on : Nat} {W : World} (hO : OcW L cur D ⟨otx, oat, oer, oL, ocur, on⟩) (h : Calls Tryd.prog f args W (Told W D)) :
    Calls Tryd.prog f args W fun r W' => (∃ (A2 : Option Addr) (n2 c2 : Nat) (cu2 : Int) (L2 : List NodeS), r = .returned (.tuple #[treeV (.slice A2 n2 c2) cu2, .string otx, .int .i64 oat, .int .i64 oer]) ∧ On W' W.heap.size (.slice A2 n2 c2) L2 ∧ (oer = 0 → cu2 = ocur ∧ L2 = oL)) ∧ Kept (fun _ => False) W W' := by
  refine h.mono ?_
  rintro r W' ⟨⟨v, rfl, hon⟩, hk⟩
  obtain ⟨A2, n2, c2, rfl, _⟩ := hon.sn
  refine ⟨⟨A2, n2, c2, D.cu, D.ns, ?_, hon, ?_⟩, hk⟩
  · rcases hO with ⟨h0, hD, h1, h2, _⟩ | ⟨h0, hD, hO⟩
    · rw [hD]; simp only at h1; rw [h1]
    · injection hO with e1 e2 e3
      rw [hD, e1, e2, e3]
  · intro h0
    rcases hO with ⟨_, hD, h1, h2, _⟩ | ⟨h1, hD, hO⟩
    · rw [hD]; exact ⟨rfl, h2.symm⟩
    · injection hO with e1 e2 e3
      exact absurd (e3.symm.trans h0) h1
theorem js_led {tb yb : Nat} {L : List NodeS} {cur : Int} {D : WR} {otx : ByteArray} {oat oer : Int} {oL : List NodeS} {ocur : Int} {on : Nat} {w7 wx : World} {vt : Value} (hO : OcW L cur D ⟨otx, oat, oer, oL, ocur, on⟩) (hT : Tq tb L cur vt w7) (hy : ∃ v z, w7.heap[yb]? = some (treeO v z)) (hne : tb ≠ yb) (hk : Kept (fun q => q = yb) w7 wx)
    {A2 : Option Addr} {n2 c2 : Nat} {cu2 : Int} {L2 : List NodeS} (hyx : wx.heap[yb]? = some (treeO (.slice A2 n2 c2) cu2)) (hon : On wx 0 (.slice A2 n2 c2) L2) (he : oer = 0 → cu2 = ocur ∧ L2 = oL) : JS tb yb L cur otx oat oer oL ocur on (.string otx) (.int .i64 oat) (.int .i64 oer) w7 wx := by
  have hT2 : Tq tb L cur vt wx := ⟨(hk.block _ (heap_lt hT.bx) hne).trans hT.bx, hT.on.keptK hk (fun q cs hq e => by
    obtain ⟨v, z, hy⟩ := hy
    subst e
    rw [hq] at hy
    injection hy with hy
    injection hy with _ hy
    exact absurd hy (by decide))⟩
  refine ⟨rfl, rfl, rfl, hk.mono (fun _ _ e => .inr e), ?_⟩
  rcases hO with ⟨h0, hD, h1, h2, _, U, Dn, hw, hn⟩ | ⟨h1, hD, hO⟩
  · simp only at h1 h2 hw hn
    obtain ⟨rfl, rfl⟩ := he h1
    exact .inl ⟨h1, cur, vt, A2, n2, c2, U, Dn, hT2.bx, hyx, hon, by rw [h2]; exact hw, hn⟩
  · injection hO with e1 e2 e3 e4 e5 e6
    refine .inr ⟨by rw [e3]; exact h1, e6, vt, ?_⟩
    rw [e4, e5]
    exact hT2
/-- The history as it is made. -/
def J4 (w1 : World) (B lim : Nat) (v4 v5 v6 : Value) (wx : World) : Prop := ∃ (S : ByteArray) (hb : Nat), v4 = .string S ∧ v5 = .pointer (some ⟨hb, 0, none⟩) ∧ v6 = .int .i64 0 ∧ mayB S = true ∧ Hx B lim hb [⟨0, -1, 0, S⟩] 0 0 wx ∧ Kept (fun _ => False) w1 wx
/-- What New tells of whatever text. -/
def JN (b : Bool) (S : ByteArray) (B lim : Nat) (x y : Value) (wx : World) : Prop :=
  (b = true ∧ ∃ hb, x = .pointer (some ⟨hb, 0, none⟩) ∧ y = .int .i64 0 ∧ Hx B lim hb [⟨0, -1, 0, S⟩] 0 0 wx) ∨ (b = false ∧ x = .pointer none ∧ y = .int .i64 1)
set_option linter.unusedSimpArgs false in
set_option maxRecDepth 100000 in
set_option maxHeartbeats 16000000 in
theorem historyExact_any (p : ScrU) (w : World) (hp : ScrUOk w p) (hT : Tabs w) : Calls Tryd.prog 3 #[.agg p.cells] w fun e w' => e = .returned (.bool true) ∧ Kept (fun _ => False) w w' := by
  have hk0 : Kept (fun _ => False) w (w.alloc (.cells p.cells 27)) := (Kept.refl _ w).alloc _
  have HU0 : Hid (Uw w w.heap.size p (w.alloc (.cells p.cells 27))) := ⟨heap_alloc_new w _, hp.kept hk0, hT.kept hk0 id id, hk0⟩
  have cH := heavy7_any p _ (hp.kept hk0)
  have HAG := Lib.hid hp.agood
  have HPW := Lib.hid hp
  have hln9 := hp.ln
  have HTW := Lib.hid hT.two
  clear hk0 hp hT
  obtain ⟨R, rn, rc, nodes, cur0, LA, ln, lc, acts⟩ := p
  unfold ScrU.cells at *
  simp only at *
  have p0 := HU0.out.par.c 0
  have p1 := HU0.out.par.c 1
  have p2 := HU0.out.par.c 2
  simp only [ScrU.cells] at p0 p1 p2
  obtain ⟨pb, hpb⟩ : ∃ pb, w.heap.size = pb := ⟨_, rfl⟩
  have HPB := Lib.hid hpb
  simp only [hpb] at HU0 p0 p1 p2
  clear hpb
  go_enter Tryd.func3, Tryd.ntmps3
  go_upto_region 1 with fail
  simp only [HPB.out]
  generalize w.alloc (.cells #[.slice R rn rc, .int .i64 cur0, .slice LA ln lc] 27) = w0 at *
  have q0 : w0.cell? ⟨pb, 0, none⟩ = some (.slice R rn rc) := p0
  have q1 : w0.cell? ⟨pb, 1, none⟩ = some (.int .i64 cur0) := p1
  have q2 : w0.cell? ⟨pb, 2, none⟩ = some (.slice LA ln lc) := p2
  clear p0 p1 p2
  obtain ⟨k6, hk6, cW6⟩ := within_nat (ln : Int) 6 (by omega)
  have HW6 := Lib.hid cW6
  clear cW6
  have hl7 : k6 + 2 ≤ 7 := by omega
  go_upto_region 3 with (go_at_call 5; refine cH.mono ?_; rintro e w1 ⟨⟨hv, rfl, _⟩, hk1⟩; have HU1 := Lib.hid (HU0.out.kept hk1); clear hk1 cH q0 q1 q2; have q2 : w1.cell? ⟨pb, 2, none⟩ = some (.slice LA ln lc) := HU1.out.par.c 2)
  · exact bodyPost_ret (results_tmp rfl _ _ _) rfl ⟨rfl, HU1.out.kp⟩
  have hv0 : hv = false := by assumption
  subst hv0
  obtain ⟨B, hB⟩ : ∃ B, w1.heap.size = B := ⟨_, rfl⟩
  have hpB : pb < B := by rw [← hB]; exact heap_lt HU1.out.par
  have hwB : w.heap.size ≤ B := by rw [← hB]; exact HU1.out.kp.size
  have HX1 : Hid (Ux w pb B ⟨R, rn, rc, nodes, cur0, LA, ln, lc, acts⟩ w1) := ⟨HU1.out.par, HU1.out.kp, hpB, hwB, by rw [← hB]; exact Nat.le_refl _⟩
  have HBB := Lib.hid hB
  clear hB hpB hwB
  go_upto_region 5 with (go_at_call 6; refine (HW6.out _).mono ?_; rintro e w' ⟨rfl, hw⟩; have hw2 := hw.symm; subst hw2)
  obtain ⟨lim, hlim⟩ : ∃ lim : Nat, k6 + 2 = lim := ⟨_, rfl⟩
  rw [show (2 : Int) + (k6 : Int) = (lim : Int) by omega]
  have hlm : 2 ≤ lim ∧ lim ≤ 7 := by omega
  clear hlim hk6 HW6 hl7
  go_upto_if 32 with fail
  go_cut [4] from 33 (fun v wx => ∃ S : ByteArray, v = .string S ∧ S.size ≤ 140737488351232 ∧ w1 = wx)
  case first =>
    as_aux_lemma =>
      by_cases hl0 : 0 < ln
      · obtain ⟨aad, act, rfl, hact, h4⟩ := HPW.out.acts.at_ hl0
        have hsz := (HAG.out act (List.mem_of_getElem? hact)).2.2.2
        have f3 : w1.cell? ⟨aad.block, aad.off + 3, none⟩ = some (.string act.tx) := by
          have h3 := (h4.kept HU1.out.kp id).c3
          rw [Nat.zero_mul, show aad.add 0 = aad by unfold Addr.add; rw [if_pos rfl]] at h3
          exact h3
        have b1 : decide (0 < ln) = true := decide_eq_true hl0
        have b2 : decide ((0 : Int) < (ln : Int)) = true := decide_eq_true (by omega)
        have t1 : (0 : Int) < (ln : Int) := by omega
        clear h4 hact
        go_wp2_with fail
        go_meet
        exact ⟨_, rfl, hsz, rfl⟩
      · obtain rfl : ln = 0 := by omega
        go_wp2_with fail
        go_meet
        exact ⟨_, rfl, by decide, rfl⟩
  case rest =>
    obtain ⟨S0, rfl, hS0, rfl⟩ := hcut
    have hS9 : (∃ b, mayB S0 = b) := ⟨_, rfl⟩
    obtain ⟨bS, hbS⟩ := hS9
    have HBS := Lib.hid hbS
    have HS0 := Lib.hid hS0
    have HTA := Lib.hid HU1.out.tabs
    have hlim : 2 ≤ lim ∧ lim ≤ 64 := by omega
    clear hbS hS0 q2
    go_upto_region 7 with fail
    go_cut [5, 6] from 38 (fun x y wx => JN bS S0 B lim x y wx ∧ Kept (fun _ => False) w1 wx)
    case first =>
      as_aux_lemma =>
        have hbS := HBS.out
        cases bS with
        | true =>
          have cN := hxnew_any lim S0 w1 HTA.out hlim hbS
          rw [HBB.out] at cN
          go_wp2_with (go_at_call 7; refine cN.mono ?_; rintro r w2 ⟨⟨hb, rfl, hx⟩, hk⟩; have HX := Lib.hid hx; have HK := Lib.hid hk; clear hx hk cN)
          go_meet
          exact ⟨.inl ⟨rfl, hb, rfl, rfl, HX.out⟩, HK.out⟩
        | false =>
          have cN := hnew_text lim S0 w1 HTA.out hlim hbS HS0.out
          go_wp2_with (go_at_call 7; refine cN.mono ?_; rintro r w2 ⟨rfl, hk⟩; have HK := Lib.hid hk; clear hk cN)
          go_meet
          exact ⟨.inr ⟨rfl, rfl, rfl⟩, HK.out⟩
    case rest =>
      obtain ⟨hjn, hk2⟩ := hcut
      obtain ⟨w2, hw2⟩ : ∃ w2, w2 = wc := ⟨_, rfl⟩
      subst hw2
      have HK2 := Lib.hid hk2
      have HJN := Lib.hid hjn
      have cM := rmay_any S0 w2 HS0.out (HTA.out.kept hk2 id id)
      rw [HBS.out] at cM
      clear hjn hk2
      go_upto_if 46 with (go_at_call 8; refine cM.mono ?_; rintro r w3 ⟨rfl, hk3⟩; have HK23 := Lib.hid hk3; have HK3 := Lib.hid (HK2.out.trans hk3); clear hk3 cM)
      go_cut [4, 5, 6] from 47 (fun a x y wx => J4 w1 B lim a x y wx)
      case first =>
        as_aux_lemma =>
          cases bS with
          | true =>
            rcases HJN.out with ⟨_, hb, hx, hy, hh⟩ | ⟨h, _⟩
            · have HH := Lib.hid (hh.kept HK23.out)
              have HXX := Lib.hid hx
              have HYY := Lib.hid hy
              clear hx hy hh
              go_wp2_with fail
              go_meet
              exact ⟨S0, hb, rfl, HXX.out, HYY.out, HBS.out, HH.out, HK3.out⟩
            · cases h
          | false =>
            rcases HJN.out with ⟨h, _⟩ | ⟨_, rfl, rfl⟩
            · cases h
            · have cN := hxnew_any lim ⟨#[]⟩ w3 (HTA.out.kept HK3.out id id) hlim (by decide)
              go_wp2_with (first
                | (go_at_call 9; refine (unum_any _ _).mono ?_; rintro e w' ⟨rfl, hw⟩; have hw2 := hw.symm; subst hw2)
                | (go_at_call 7; refine cN.mono ?_; rintro r w4 ⟨⟨hb, rfl, hx⟩, hk⟩; have HX := Lib.hid hx; have HK := Lib.hid (HK3.out.trans hk); clear hx hk cN))
              go_meet
              exact ⟨⟨#[]⟩, hb, rfl, rfl, rfl, by decide, HX.out.low (by have := HBB.out; have := HK3.out.size; omega), HK.out⟩
      case rest =>
        obtain ⟨S, hb, rfl, rfl, rfl, hS, hx, hk4⟩ := hcut
        obtain ⟨w4, hw4⟩ : ∃ w4, w4 = wc := ⟨_, rfl⟩
        subst hw4
        have HX4 := Lib.hid (HX1.out.kept hk4)
        have HH4 := Lib.hid hx
        have HS := Lib.hid hS
        clear hS hx hk4 HJN HK2 HK3 HK23 HTA HS0 HBS HBB HX1 HU1
        have cN := hnew_most 1 ⟨#[]⟩ w4 (by omega)
        go_upto_region 16 with (first
          | (go_at_call 9; refine (unum_any _ _).mono ?_; rintro e w' ⟨rfl, hw⟩; have hw2 := hw.symm; subst hw2)
          | (go_at_call 7; refine cN.mono ?_; rintro r w' ⟨rfl, hw⟩; have hw2 := hw.symm; subst hw2; clear cN))
        have cR := rroot_any S w4
        go_upto_region 17 with (go_at_call 10; refine cR.mono ?_; rintro r w5 ⟨⟨v, rfl, hO⟩, hk5⟩; obtain ⟨A0, n0, c0, rfl, _⟩ := hO.sn; have HK5 := Lib.hid hk5; have HO5 := Lib.hid (hO.mono (Nat.zero_le _)); clear hk5 hO cR)
        have HK6 : Hid (Kept (fun _ => False) w4 (w5.alloc (treeO (.slice A0 n0 c0) 0))) := HK5.out.alloc _
        have HT6 : Hid (Tq w5.heap.size [⟨0, -1, 0, S⟩] 0 (.slice A0 n0 c0) (w5.alloc (treeO (.slice A0 n0 c0) 0))) := ⟨heap_alloc_new w5 _, HO5.out.kept ((Kept.refl (fun _ => False) w5).alloc _)⟩
        simp only [treeO] at HK6 HT6
        obtain ⟨tb, htb⟩ : ∃ tb, w5.heap.size = tb := ⟨_, rfl⟩
        have HTB : Hid (B ≤ tb) := by have h1 := HX4.out.sz; have h2 := HK5.out.size; show _ ≤ _; omega
        simp only [htb] at HT6 ⊢
        clear htb
        generalize w5.alloc _ = w6 at *
        have HX6 := Lib.hid (HX4.out.kept HK6.out)
        have HH6 : Hid (Hst B lim hb [⟨0, -1, 0, S⟩] 0 0 0 w6) := ⟨HH4.out.kept HK6.out, tr9_root S HS.out, by show 1 ≤ lim; omega, ⟨_, rfl, by show (0 : Int) ≤ _; omega⟩, by omega⟩
        clear HK6 HK5 HO5 HH4 HX4
        go_wp2_with fail
        go_loopw [10, 11] (fun a b wr => ∃ (i : Nat) (L : List NodeS) (cur k : Int) (v : Value), i ≤ ln ∧ i ≤ 16 ∧ a = .int .i64 k ∧ b = .int .i64 i ∧ Hst B lim hb L cur k i wr ∧ Tq tb L cur v wr ∧ Ux w pb B ⟨R, rn, rc, nodes, cur0, LA, ln, lc, acts⟩ wr) (fun _ b _ => ln - (intOf b).toNat)
        case atStart => exact ⟨0, _, _, _, _, Nat.zero_le _, Nat.zero_le _, rfl, rfl, HH6.out, HT6.out, HX6.out⟩
        case round =>
          obtain ⟨i, L, cur, k, v, hi, hi16, rfl, rfl, hh, ht, hx⟩ := hrel
          clear HH6 HT6 HX6
          have HH := Lib.hid hh
          have HT := Lib.hid ht
          have HX := Lib.hid hx
          have p2 : wr.cell? ⟨pb, 2, none⟩ = some (.slice LA ln lc) := hx.par.c 2
          have hcu : 0 ≤ idx L cur := by have := hh.hx.mt.cu; rw [blank_idx] at this; exact this
          have HKB0 := Lib.hid hh.kb
          have hml : L.length ≤ 7 := by have := hh.le; omega
          have hm1 : 1 ≤ L.length := by have := hh.hx.mt.ge; rw [blank_len] at this; exact this
          obtain ⟨A, c, rfl, hng, hnc, hAN⟩ := ht.on.slice
          obtain ⟨ad, rfl⟩ : ∃ ad, A = some ad := by
            cases A with
            | none => have := (hAN rfl).1; omega
            | some ad => exact ⟨ad, rfl⟩
          obtain ⟨m, hm⟩ : ∃ m, L.length = m := ⟨_, rfl⟩
          have HM := Lib.hid hm
          have HCU := Lib.hid hcu
          rw [hm] at HT hng hnc hml hm1
          clear hh ht hx hm hAN hng hcu
          by_cases hgo : i < ln ∧ i < 16
          · obtain ⟨g1, g2⟩ := hgo
            have b1 : decide (i < ln) = true := decide_eq_true g1
            have b2 : decide ((i : Int) < (ln : Int)) = true := decide_eq_true (by omega)
            have b3 : decide (i < 16) = true := decide_eq_true g2
            have b4 : decide ((i : Int) < 16) = true := decide_eq_true (by omega)
            obtain ⟨aad, act, rfl, hact, h4⟩ := HPW.out.acts.at_ g1
            have hsz : act.tx.size ≤ 140737488351232 := (HAG.out act (List.mem_of_getElem? hact)).2.2.2
            have t1_ : (0 : Int) ≤ (i : Int) := by omega
            have t2_ : (i : Int) < (ln : Int) := by omega
            obtain ⟨aDo, aAt, aMost, s⟩ := act
            simp only at hsz
            have H4 : Hid (∀ W, Kept (fun _ => False) w W → W.cell? (aad.add (i * 4)) = some (.int .i64 aDo) ∧ W.cell? ⟨(aad.add (i * 4)).block, (aad.add (i * 4)).off + 1, none⟩ = some (.int .i64 aAt) ∧ W.cell? ⟨(aad.add (i * 4)).block, (aad.add (i * 4)).off + 2, none⟩ = some (.int .i64 aMost) ∧ W.cell? ⟨(aad.add (i * 4)).block, (aad.add (i * 4)).off + 3, none⟩ = some (.string s)) := fun W h => ⟨(h4.kept h id).c0, (h4.kept h id).c1, (h4.kept h id).c2, (h4.kept h id).c3⟩
            obtain ⟨f0, f1, f2, f3⟩ := H4.out wr HX.out.kp
            have HSZ := Lib.hid hsz
            clear hact h4 hsz
            go_upto_region 22 with fail
            clear f0 f1 f2 f3 p2 b1 b2 b3 b4
            have HKA : Hid (Kept (fun _ => False) wr (wr.alloc (actO8 ⟨aDo, aAt, aMost, s⟩))) := (Kept.refl _ wr).alloc _
            have HAA : Hid ((wr.alloc (actO8 ⟨aDo, aAt, aMost, s⟩)).heap[wr.heap.size]? = some (actO8 ⟨aDo, aAt, aMost, s⟩)) := heap_alloc_new wr _
            obtain ⟨ab, hab⟩ : ∃ ab, wr.heap.size = ab := ⟨_, rfl⟩
            have HAB := Lib.hid hab
            simp only [actO8] at HKA HAA
            simp only [hab] at HAA ⊢
            clear hab
            generalize wr.alloc _ = wa at *
            obtain ⟨k9, hk9, cW9⟩ := within_nat aAt 9 (by omega)
            have HW9 := Lib.hid cW9
            obtain ⟨bi, hbi⟩ : ∃ bi : Bool, ((i : Int) % 2 == 0) = bi := ⟨_, rfl⟩
            clear cW9
            go_upto_if 99 with fail
            go_cut [] from 100 to 103 (fun wx => ∃ z : Int, wx.heap[ab]? = some (actO8 ⟨aDo, z, aMost, s⟩) ∧ Kept (fun q => q = ab) wa wx)
            case first =>
              as_aux_lemma =>
                cases bi with
                | false =>
                  go_wp2_with fail
                  go_meet
                  exact ⟨aAt, HAA.out, Kept.refl _ _⟩
                | true =>
                  obtain ⟨_, e1, _⟩ := act_facts8 (a := ⟨aDo, aAt, aMost, s⟩) HAA.out
                  have e2 : wa.frozen? ⟨ab, 1, none⟩ = false := frozen_of HAA.out
                  simp only at e1
                  have HZA : Hid ((wa.setCell ⟨ab, 1, none⟩ (.int .i64 k9)).heap[ab]? = some (actO8 ⟨aDo, k9, aMost, s⟩) ∧ Kept (fun q => q = ab) wa (wa.setCell ⟨ab, 1, none⟩ (.int .i64 k9))) := ⟨(heap_set HAA.out _).trans rfl, (Kept.refl (fun q => q = ab) wa).setCell (p := ⟨ab, 1, none⟩) rfl _⟩
                  go_wp2_with (go_at_call 6; refine (HW9.out _).mono ?_; rintro e w' ⟨rfl, hw⟩; have hw2 := hw.symm; subst hw2)
                  go_meet
                  exact ⟨_, HZA.out⟩
            case rest =>
              obtain ⟨z, hab2, hk5⟩ := hcut
              obtain ⟨w5, hw5⟩ : ∃ w5, w5 = wc := ⟨_, rfl⟩
              subst hw5
              have HK5 : Hid (Kept (fun _ => False) wr w5) := HKA.out.fresh hk5 (fun q h1 h2 => by have := HAB.out; omega)
              have HA5 := Lib.hid hab2
              have HH5 := Lib.hid (HH.out.kept HK5.out)
              have HT5 := Lib.hid (HT.out.kept HK5.out)
              have HX5 := Lib.hid (HX.out.kept HK5.out)
              clear hk5 hab2 hbi HKA HAA
              obtain ⟨kd, hk10, cWd⟩ := within_nat aDo 10 (by omega)
              have HWD := Lib.hid cWd
              obtain ⟨ic, ei, hic, hei, hes⟩ := idx_some HCU.out
              obtain ⟨l, hl, hlq⟩ := HH5.out.la
              obtain ⟨O, hO, hcd⟩ := doesany HH5.out ⟨hlm.1, by omega⟩ (by omega) HX5.out.sz (a := ⟨aDo, z, aMost, s⟩) hic hei hl HSZ.out kd hk10 cWd
              have hcd5 := hcd w5 (Kept.refl _ _)
              have HO := Lib.hid hO
              have HIC := Lib.hid hic
              have HEI := Lib.hid hei
              have HLL := Lib.hid hl
              have HLQ := Lib.hid hlq
              have H9L := Lib.hid HH5.out.t9
              obtain ⟨otx, oat, oer, oL, ocur, on⟩ := O
              obtain ⟨a0, a1, a2, a3⟩ := act_facts4 (a := ⟨aDo, z, aMost, s⟩) HA5.out
              simp only at hcd5 a0 a1 a2 a3
              clear hO hic hei hes hl hlq cWd hcd
              go_upto_region 25 with (go_at_call 11; refine hcd5.mono ?_; rintro r w6 ⟨rfl, hh6, hkm⟩; have HH6 := Lib.hid hh6; have HA6 : Hid (w6.heap[ab]? = some (actO8 ⟨aDo, z, aMost, s⟩)) := hkm.far HH5.out.hx.bx HA5.out (by decide); have HT6 := Lib.hid (HT5.out.km hkm HH5.out.hx.bx); have HX6 := Lib.hid (HX5.out.km HH5.out.hx.lo hkm); clear hh6 hkm hcd5 a0 a1 a2 a3)
              clear HA5 HH5 HT5 HX5 HK5
              obtain ⟨t0, t1, _⟩ := tree_facts HT6.out.bx
              go_upto_region 26 with fail
              clear t0 t1
              have HK7 : Hid (Kept (fun _ => False) w6 (w6.alloc (treeO (.slice (some ad) m c) cur))) := (Kept.refl _ w6).alloc _
              have HY7 : Hid ((w6.alloc (treeO (.slice (some ad) m c) cur)).heap[w6.heap.size]? = some (treeO (.slice (some ad) m c) cur)) := heap_alloc_new w6 _
              have HTY : Hid (tb < w6.heap.size) := heap_lt HT6.out.bx
              obtain ⟨yb, hyb⟩ : ∃ yb, w6.heap.size = yb := ⟨_, rfl⟩
              have HYB : Hid (B ≤ yb) := by show _ ≤ _; rw [← hyb]; exact HX6.out.sz
              simp only [treeO] at HK7 HY7
              simp only [hyb] at HY7 HTY ⊢
              have HYS := Lib.hid hyb
              clear hyb
              generalize w6.alloc _ = w7 at *
              have HH7 := Lib.hid (HH6.out.kept HK7.out)
              have HT7 := Lib.hid (HT6.out.kept HK7.out)
              have HX7 := Lib.hid (HX6.out.kept HK7.out)
              have HA7 : Hid (w7.heap[ab]? = some (actO8 ⟨aDo, z, aMost, s⟩)) := (HK7.out.block _ (heap_lt HA6.out) id).trans HA6.out
              clear HH6 HT6 HX6 HA6
              obtain ⟨a0, _⟩ := act_facts4 (a := ⟨aDo, z, aMost, s⟩) HA7.out
              simp only at a0
              go_upto_region 27 with (go_at_call 6; refine (HWD.out _).mono ?_; rintro e w' ⟨rfl, hw⟩; have hw2 := hw.symm; clear hw; subst hw2)
              go_upto_block 2 with fail
              go_cut [17, 18, 19] from 116 to 175 (fun x y u wx => JS tb yb L cur otx oat oer oL ocur on x y u w7 wx)
              case first =>
                as_aux_lemma =>
                  have HN7 := Lib.hid HT7.out.on.ngs
                  have HX7T := Lib.hid HH7.out.hx.tabs
                  have HTYN : Hid (tb ≠ yb) := by have h1 := HTY.out; show _ ≠ _; omega
                  have HJS : Hid (∀ (D : WR) (w8 : World) (A2 : Option Addr) (n2 c2 : Nat) (cu2 : Int) (L2 : List NodeS), OcW L cur D ⟨otx, oat, oer, oL, ocur, on⟩ → Kept (fun _ => False) w7 w8 → On w8 w7.heap.size (.slice A2 n2 c2) L2 → (oer = 0 → cu2 = ocur ∧ L2 = oL) → JS tb yb L cur otx oat oer oL ocur on (.string otx) (.int .i64 oat) (.int .i64 oer) w7 ((w8.setCell ⟨yb, 0, none⟩ (.slice A2 n2 c2)).setCell ⟨yb, 1, none⟩ (.int .i64 cu2))) := by
                    show ∀ D w8 A2 n2 c2 cu2 L2, _
                    intro D w8 A2 n2 c2 cu2 L2 hO hk hon he
                    have hks : Kept (fun q => q = yb) w8 ((w8.setCell ⟨yb, 0, none⟩ (.slice A2 n2 c2)).setCell ⟨yb, 1, none⟩ (.int .i64 cu2)) := Kept.tree (g := yb) (S := fun q => q = yb) (Kept.refl (fun q => q = yb) w8) rfl _ _
                    have hy8 := (hk.block _ (heap_lt HY7.out) id).trans HY7.out
                    exact js_led hO HT7.out ⟨_, _, HY7.out⟩ HTYN.out (hk.any.trans hks) (tree_set hy8 _ _) ((hon.mono (Nat.zero_le _)).keptK hks (fun q cs hq e => by
                      subst e
                      rw [hy8] at hq
                      injection hq with hq
                      injection hq with _ hq
                      exact absurd hq (by decide))) he
                  clear a0
                  rcases HO.out with ⟨hk4, hoc⟩ | ⟨y, hy1, hy4, hky, how⟩ | ⟨hk9, how⟩
                  · as_aux_lemma =>
                      have e5 : ((kd : Int) == 5) = false := by rw [beq_eq_false_iff_ne]; omega
                      have e6 : ((kd : Int) == 6) = false := by rw [beq_eq_false_iff_ne]; omega
                      have e7 : ((kd : Int) == 7) = false := by rw [beq_eq_false_iff_ne]; omega
                      have e8 : ((kd : Int) == 8) = false := by rw [beq_eq_false_iff_ne]; omega
                      have e9 : ((kd : Int) == 9) = false := by rw [beq_eq_false_iff_ne]; omega
                      have n5 : (kd == 5) = false := by rw [beq_eq_false_iff_ne]; omega
                      have n6 : (kd == 6) = false := by rw [beq_eq_false_iff_ne]; omega
                      have n7 : (kd == 7) = false := by rw [beq_eq_false_iff_ne]; omega
                      have n8 : (kd == 8) = false := by rw [beq_eq_false_iff_ne]; omega
                      have n9 : (kd == 9) = false := by rw [beq_eq_false_iff_ne]; omega
                      obtain ⟨a0, a1, a2, a3⟩ := act_facts4 (a := ⟨aDo, z, aMost, s⟩) HA7.out
                      simp only at a0 a1 a2 a3
                      have cMy := rmay_any s w7 HSZ.out HX7T.out
                      have HAK : Hid (∀ W, Kept (fun _ => False) w7 W → W.cell? ⟨ab, 1, none⟩ = some (.int .i64 z) ∧ W.cell? ⟨ab, 3, none⟩ = some (.string s) ∧ W.cell? ⟨tb, 0, none⟩ = some (.slice (some ad) m c) ∧ W.cell? ⟨tb, 1, none⟩ = some (.int .i64 cur)) := by
                        show ∀ W, _
                        intro W hk
                        have h1 := act_facts4 (a := ⟨aDo, z, aMost, s⟩) ((hk.block _ (heap_lt HA7.out) id).trans HA7.out)
                        have h2 := tree_facts (HT7.out.kept hk).bx
                        exact ⟨h1.2.1, h1.2.2.2, h2.1, h2.2.1⟩
                      obtain ⟨bm, hbm⟩ : ∃ b, mayB s = b := ⟨_, rfl⟩
                      obtain ⟨bn, hbn⟩ : ∃ b, decide (0 ≤ z ∧ z ≤ 4000) = b := ⟨_, rfl⟩
                      have cNu := fun W => mnum_any z 4000 W
                      rw [hbn] at cNu
                      rw [hbm] at cMy
                      clear a0 a2 hk4
                      by_cases hok : bm = true ∧ bn = true
                      · obtain ⟨rfl, rfl⟩ := hok
                        have hzz := of_decide_eq_true hbn
                        rcases hoc with ⟨_, hO⟩ | ⟨h, _⟩
                        · injection hO with q1 q2 q3 q4 q5 q6
                          subst q1 q2 q3 q4 q5 q6
                          have HCO : Hid (∀ W, Kept (fun _ => False) w7 W → Calls Tryd.prog 16 #[treeV (.slice (some ad) m c) cur, .string s, .int .i64 z, .int .i64 lim] W fun r w' => (∃ v, r = .returned (.tuple #[treeV v (cmt L cur l.sq s z lim).2, .int .i64 0]) ∧ On w' W.heap.size v (cmt L cur l.sq s z lim).1) ∧ Kept (fun _ => False) W w') := by
                            show ∀ W, _
                            intro W hk
                            have h9 := H9L.out
                            have hlge := h9.ord.ge l (List.mem_of_getLast? HLL.out)
                            have hlq := HLQ.out
                            refine rcommit_any ad m c L cur s z lim l W (HN7.out.kept hk (fun _ _ => id)) hm1 (by omega) (HX7T.out.kept hk id id) ⟨hlm.1, by omega⟩ HLL.out ⟨hlge, by omega⟩ (h9.ord.snoc HLL.out (by show l.sq < l.sq + 1; omega) ?_ (by show 0 ≤ l.sq + 1; omega))
                            obtain ⟨j1, x1, hj1, hx1, hs1⟩ := idx_some HCU.out
                            have hb := last_big h9.ord HLL.out x1 (List.mem_of_getElem? hx1)
                            show cur < l.sq + 1
                            omega
                          generalize (cmt L cur l.sq s z lim).1 = oL at *
                          generalize (cmt L cur l.sq s z lim).2 = ocur at *
                          clear hzz hbm hbn
                          go_upto_region 29 with (first
                            | (go_at_call 8; refine cMy.mono ?_; rintro r w8 ⟨rfl, hk8⟩; have HK8 := Lib.hid hk8; have cCo := HCO.out w8 hk8; clear hk8 cMy a1 a3; obtain ⟨a1, a3, t0, t1⟩ := HAK.out w8 HK8.out)
                            | (go_at_call 15; refine (cNu _).mono ?_; rintro e w' ⟨rfl, hw⟩; have hw2 := hw.symm; clear hw; subst hw2))
                          have HY8 : Hid (w8.heap[yb]? = some (treeO (.slice (some ad) m c) cur)) := (HK8.out.block _ (heap_lt HY7.out) id).trans HY7.out
                          go_upto_region 30 with (go_at_call 16; refine cCo.mono ?_; rintro r w9 ⟨⟨v, rfl, hon⟩, hk9⟩; obtain ⟨A2, n2, c2, rfl, _⟩ := hon.sn; have HK9 := Lib.hid hk9; have HON := Lib.hid hon; have HY9 : Hid (w9.heap[yb]? = some (treeO (.slice (some ad) m c) cur)) := (hk9.block _ (heap_lt HY8.out) id).trans HY8.out; clear a1 a3 t0 t1 hk9 hon cCo; obtain ⟨y0, y1, y2, y3⟩ := tree_facts HY9.out)
                          have HYA : Hid (((w9.setCell ⟨yb, 0, none⟩ (.slice A2 n2 c2)).setCell ⟨yb, 1, none⟩ (.int .i64 ocur)).heap[yb]? = some (treeO (.slice A2 n2 c2) ocur)) := tree_set HY9.out _ _
                          have HKA : Hid (Kept (fun q => q = yb) w9 ((w9.setCell ⟨yb, 0, none⟩ (.slice A2 n2 c2)).setCell ⟨yb, 1, none⟩ (.int .i64 ocur))) := Kept.tree (g := yb) (S := fun q => q = yb) (Kept.refl (fun q => q = yb) w9) rfl _ _
                          have HT9 := Lib.hid ((HT7.out.kept HK8.out).kept HK9.out)
                          clear y0 y1 y2 y3
                          generalize (w9.setCell ⟨yb, 0, none⟩ (.slice A2 n2 c2)).setCell ⟨yb, 1, none⟩ (.int .i64 ocur) = wA at *
                          have HTA : Hid (wA.heap[tb]? = some (treeO (.slice (some ad) m c) cur)) := (HKA.out.block _ (heap_lt HT9.out.bx) HTYN.out).trans HT9.out.bx
                          obtain ⟨y0, y1, _⟩ := tree_facts HYA.out
                          obtain ⟨t0, t1, t2, t3⟩ := tree_facts HTA.out
                          have HKB : Hid (Kept (fun q => q = tb) wA ((wA.setCell ⟨tb, 0, none⟩ (.slice A2 n2 c2)).setCell ⟨tb, 1, none⟩ (.int .i64 ocur))) := Kept.tree (g := tb) (S := fun q => q = tb) (Kept.refl (fun q => q = tb) wA) rfl _ _
                          have HTB2 : Hid (((wA.setCell ⟨tb, 0, none⟩ (.slice A2 n2 c2)).setCell ⟨tb, 1, none⟩ (.int .i64 ocur)).heap[tb]? = some (treeO (.slice A2 n2 c2) ocur)) := tree_set HTA.out _ _
                          go_wp2_with fail
                          go_meet
                          have hkk : Kept (fun q => q = tb ∨ q = yb) w7 ((wA.setCell ⟨tb, 0, none⟩ (.slice A2 n2 c2)).setCell ⟨tb, 1, none⟩ (.int .i64 ocur)) := ((HK8.out.trans HK9.out).any.trans (HKA.out.mono (fun _ _ e => .inr e))).trans (HKB.out.mono (fun _ _ e => .inl e))
                          have ho2 := ((HON.out.mono (Nat.zero_le _)).keptK HKA.out (fun q cs hq e => by
                            subst e
                            have hy := HY9.out
                            rw [hq] at hy
                            injection hy with hy
                            injection hy with _ hy
                            exact absurd hy (by decide))).keptK HKB.out (fun q cs hq e => by
                            subst e
                            have hy := HTA.out
                            rw [hq] at hy
                            injection hy with hy
                            injection hy with _ hy
                            exact absurd hy (by decide))
                          exact ⟨rfl, rfl, rfl, hkk, .inl ⟨rfl, ocur, .slice A2 n2 c2, A2, n2, c2, [], [], HTB2.out, (HKB.out.block _ (heap_lt HYA.out) (fun e => HTYN.out e.symm)).trans HYA.out, ho2, .done _, rfl⟩⟩
                        · exact absurd ⟨hbm, hzz⟩ h
                      · rcases hoc with ⟨h, _⟩ | ⟨_, hO⟩
                        · exact absurd ⟨hbm.symm.trans h.1, hbn.symm.trans (decide_eq_true h.2)⟩ hok
                        · injection hO with q1 q2 q3 q4 q5 q6
                          subst q1 q2 q3 q4 q5 q6
                          have hb : bm = false ∨ (bm = true ∧ bn = false) := by
                            cases bm with
                            | false => exact .inl rfl
                            | true =>
                              cases bn with
                              | false => exact .inr ⟨rfl, rfl⟩
                              | true => exact absurd ⟨rfl, rfl⟩ hok
                          clear hok hbm hbn
                          rcases hb with rfl | ⟨rfl, rfl⟩
                          all_goals
                            go_wp2_with (first
                              | (go_at_call 8; refine cMy.mono ?_; rintro r w8 ⟨rfl, hk8⟩; have HK8 := Lib.hid hk8; clear hk8 cMy a1 a3; obtain ⟨a1, a3, t0, t1⟩ := HAK.out w8 HK8.out)
                              | (go_at_call 15; refine (cNu _).mono ?_; rintro e w' ⟨rfl, hw⟩; have hw2 := hw.symm; clear hw; subst hw2))
                            go_meet
                            exact ⟨rfl, rfl, rfl, HK8.out.any, .inr ⟨by decide, rfl, _, HT7.out.kept HK8.out⟩⟩
                  · as_aux_lemma =>
                      have HWF : Hid (∀ (y' : Nat), y = y' → ∀ (W : World), OcW L cur (wkR y L cur ei) ⟨otx, oat, oer, oL, ocur, on⟩ → Calls Tryd.prog 12 #[treeV (.slice (some ad) m c) cur, .int .i64 (y' : Int)] W (Told W (wkR y' L cur ei)) → Calls Tryd.prog 12 #[treeV (.slice (some ad) m c) cur, .int .i64 (y' : Int)] W fun r W' => (∃ (A2 : Option Addr) (n2 c2 : Nat) (cu2 : Int) (L2 : List NodeS), r = .returned (.tuple #[treeV (.slice A2 n2 c2) cu2, .string otx, .int .i64 oat, .int .i64 oer]) ∧ On W' W.heap.size (.slice A2 n2 c2) L2 ∧ (oer = 0 → cu2 = ocur ∧ L2 = oL)) ∧ Kept (fun _ => False) W W') := by
                        show ∀ y', _
                        intro y' hy W hO h
                        subst hy
                        exact walk_form hO h
                      have HOW := Lib.hid how
                      clear how
                      rcases (by omega : y = 1 ∨ y = 2 ∨ y = 3 ∨ y = 4) with hy | hy | hy | hy
                      · have hkd : (kd : Int) = 5 := by omega
                        rw [hkd]
                        have HKD := Lib.hid hkd
                        have cWk := HWF.out 1 (by omega) w7 HOW.out (rwalk1_any ad m c L cur w7 HN7.out hm1 (by omega) HX7T.out ic ei HIC.out HEI.out)
                        obtain ⟨t0, t1, _⟩ := tree_facts HT7.out.bx
                        obtain ⟨y0, y1, y2, y3⟩ := tree_facts HY7.out
                        clear hkd
                        go_wp2_with (go_at_call 12; refine cWk.mono ?_; rintro r w8 ⟨⟨A2, n2, c2, cu2, L2, rfl, hon, he⟩, hk8⟩; have HK8 := Lib.hid hk8; have HON := Lib.hid hon; have HE8 := Lib.hid he; have HY8 : Hid (w8.heap[yb]? = some (treeO (.slice (some ad) m c) cur)) := (hk8.block _ (heap_lt HY7.out) id).trans HY7.out; clear y0 y1 y2 y3 t0 t1 hk8 hon he cWk; obtain ⟨y0, y1, y2, y3⟩ := tree_facts HY8.out)
                        rw [← HKD.out]
                        go_meet
                        exact HJS.out _ _ _ _ _ _ _ HOW.out HK8.out HON.out HE8.out
                      · have hkd : (kd : Int) = 6 := by omega
                        rw [hkd]
                        have HKD := Lib.hid hkd
                        have cWk := HWF.out 2 (by omega) w7 HOW.out (rwalk2_any ad m c L cur w7 HN7.out hm1 (by omega) HX7T.out ic ei HIC.out HEI.out)
                        obtain ⟨t0, t1, _⟩ := tree_facts HT7.out.bx
                        obtain ⟨y0, y1, y2, y3⟩ := tree_facts HY7.out
                        clear hkd
                        go_wp2_with (go_at_call 12; refine cWk.mono ?_; rintro r w8 ⟨⟨A2, n2, c2, cu2, L2, rfl, hon, he⟩, hk8⟩; have HK8 := Lib.hid hk8; have HON := Lib.hid hon; have HE8 := Lib.hid he; have HY8 : Hid (w8.heap[yb]? = some (treeO (.slice (some ad) m c) cur)) := (hk8.block _ (heap_lt HY7.out) id).trans HY7.out; clear y0 y1 y2 y3 t0 t1 hk8 hon he cWk; obtain ⟨y0, y1, y2, y3⟩ := tree_facts HY8.out)
                        rw [← HKD.out]
                        go_meet
                        exact HJS.out _ _ _ _ _ _ _ HOW.out HK8.out HON.out HE8.out
                      · have hkd : (kd : Int) = 7 := by omega
                        rw [hkd]
                        have HKD := Lib.hid hkd
                        have cWk := HWF.out 3 (by omega) w7 HOW.out (rwalk3_any ad m c L cur w7 HN7.out hm1 (by omega) HX7T.out ic ei HIC.out HEI.out)
                        obtain ⟨t0, t1, _⟩ := tree_facts HT7.out.bx
                        obtain ⟨y0, y1, y2, y3⟩ := tree_facts HY7.out
                        clear hkd
                        go_wp2_with (go_at_call 12; refine cWk.mono ?_; rintro r w8 ⟨⟨A2, n2, c2, cu2, L2, rfl, hon, he⟩, hk8⟩; have HK8 := Lib.hid hk8; have HON := Lib.hid hon; have HE8 := Lib.hid he; have HY8 : Hid (w8.heap[yb]? = some (treeO (.slice (some ad) m c) cur)) := (hk8.block _ (heap_lt HY7.out) id).trans HY7.out; clear y0 y1 y2 y3 t0 t1 hk8 hon he cWk; obtain ⟨y0, y1, y2, y3⟩ := tree_facts HY8.out)
                        rw [← HKD.out]
                        go_meet
                        exact HJS.out _ _ _ _ _ _ _ HOW.out HK8.out HON.out HE8.out
                      · have hkd : (kd : Int) = 8 := by omega
                        rw [hkd]
                        have HKD := Lib.hid hkd
                        have cWk := HWF.out 4 (by omega) w7 HOW.out (rwalk4_any ad m c L cur w7 HN7.out hm1 (by omega) HX7T.out ic ei HIC.out HEI.out)
                        obtain ⟨t0, t1, _⟩ := tree_facts HT7.out.bx
                        obtain ⟨y0, y1, y2, y3⟩ := tree_facts HY7.out
                        clear hkd
                        go_wp2_with (go_at_call 12; refine cWk.mono ?_; rintro r w8 ⟨⟨A2, n2, c2, cu2, L2, rfl, hon, he⟩, hk8⟩; have HK8 := Lib.hid hk8; have HON := Lib.hid hon; have HE8 := Lib.hid he; have HY8 : Hid (w8.heap[yb]? = some (treeO (.slice (some ad) m c) cur)) := (hk8.block _ (heap_lt HY7.out) id).trans HY7.out; clear y0 y1 y2 y3 t0 t1 hk8 hon he cWk; obtain ⟨y0, y1, y2, y3⟩ := tree_facts HY8.out)
                        rw [← HKD.out]
                        go_meet
                        exact HJS.out _ _ _ _ _ _ _ HOW.out HK8.out HON.out HE8.out
                  · as_aux_lemma =>
                      have hkd : (kd : Int) = 9 := by omega
                      rw [hkd]
                      have HKD := Lib.hid hkd
                      have cNo := rnode_any (some ad) m c L cur z w7 HN7.out (by omega)
                      obtain ⟨a0, a1, a2, a3⟩ := act_facts4 (a := ⟨aDo, z, aMost, s⟩) HA7.out
                      simp only at a0 a1 a2 a3
                      obtain ⟨t0, t1, _⟩ := tree_facts HT7.out.bx
                      clear hkd hk9 a0 a2 a3
                      by_cases hz : idx L z < 0
                      · rw [jmr_no hz] at how
                        rcases how with ⟨h0, _⟩ | ⟨_, _, hO⟩
                        · exact absurd h0 (by decide)
                        · have hO' : (⟨otx, oat, oer, oL, ocur, on⟩ : Oc) = ⟨⟨#[]⟩, 0, 3, L, cur, 0⟩ := hO
                          obtain ⟨q, hq⟩ : ∃ q, idx L z = q := ⟨_, rfl⟩
                          rw [hq] at cNo hz
                          have d1 : decide (0 ≤ q) = false := decide_eq_false (by omega)
                          clear hO hq hz
                          injection hO' with q1 q2 q3 q4 q5 q6
                          subst q1 q2 q3 q4 q5 q6
                          go_wp2_with (go_at_call 13; refine cNo.mono ?_; rintro r w8 ⟨rfl, hk8⟩; have HK8 := Lib.hid hk8; clear hk8 cNo)
                          rw [← HKD.out]
                          go_meet
                          exact ⟨rfl, rfl, rfl, HK8.out.any, .inr ⟨by decide, rfl, _, HT7.out.kept HK8.out⟩⟩
                      · obtain ⟨i2, e2, hi2, he2, hs2⟩ := idx_some (show 0 ≤ idx L z by omega)
                        have hhow := how
                        rw [jmr_yes hi2 he2] at how
                        have h4e := (HN7.out.nd he2).2
                        have hi2m : i2 < m := by have h1 := get_lt he2; have h2 := HM.out; omega
                        rcases how with ⟨_, hD, h1, h2, _, _⟩ | ⟨h0, _⟩
                        · simp only at hD h1 h2
                          injection hD with _ q2 q3 q4 _
                          subst h1
                          rw [hs2] at q2
                          subst q2
                          have HOW := Lib.hid hhow
                          have HLO : Hid (L = oL) := h2.symm
                          clear he2
                          rw [hi2] at cNo
                          have d1 : decide (0 ≤ (i2 : Int)) = true := decide_eq_true (by omega)
                          have w1_ : (0 : Int) ≤ (i2 : Int) := by omega
                          have w2_ : (i2 : Int) < (m : Int) := by omega
                          have HADY : Hid (ad.block ≠ yb) := by
                            show _ ≠ _
                            obtain ⟨cs, hcs⟩ := HT7.out.on.adt
                            intro e
                            rw [e, HY7.out] at hcs
                            injection hcs with hcs
                            injection hcs with _ hcs
                            exact absurd hcs (by decide)
                          have h4 := h4e
                          have hKF : ∀ W, Kept (fun q => q = yb) w7 W → W.cell? ⟨tb, 0, none⟩ = some (.slice (some ad) m c) ∧ W.cell? ⟨tb, 1, none⟩ = some (.int .i64 cur) ∧ W.cell? ⟨(ad.add (i2 * 4)).block, (ad.add (i2 * 4)).off + 3, none⟩ = some (.string otx) ∧ W.cell? ⟨(ad.add (i2 * 4)).block, (ad.add (i2 * 4)).off + 2, none⟩ = some (.int .i64 oat) := by
                            intro W hk
                            have hb2 : (ad.add (i2 * 4)).block = ad.block := by unfold Addr.add; split <;> rfl
                            have h5 := h4.kept hk (by rw [hb2]; exact HADY.out)
                            have h6 := tree_facts ((hk.block _ (heap_lt HT7.out.bx) HTYN.out).trans HT7.out.bx)
                            exact ⟨h6.1, h6.2.1, by rw [← q3]; exact h5.c3, by rw [← q4]; exact h5.c2⟩
                          have HKF := Lib.hid hKF
                          clear h4 h4e h2 q3 q4 hi2 hs2 hz hi2m hhow hKF
                          go_upto_region 41 with (go_at_call 13; refine cNo.mono ?_; rintro r w8 ⟨rfl, hk8⟩; have HK8 := Lib.hid hk8; clear hk8 cNo t0 t1 a1)
                          have KA := HKF.out w8.drew (HK8.out.any.drew)
                          have HCT : Hid (∀ W, Kept (fun _ => False) w8 W → Calls Tryd.prog 14 #[treeV (.slice (some ad) m c) cur] W fun r w' => (∃ v, r = .returned (treeV v cur) ∧ On w' W.heap.size v L) ∧ Kept (fun _ => False) W w') := fun W hk => copytree_any (some ad) m c L cur W (HN7.out.kept (HK8.out.trans hk) (fun _ _ => id)) (by omega)
                          have cT := HCT.out w8.drew (Kept.refl _ w8).drew
                          have HDR : Hid (Kept (fun _ => False) w8 w8.drew) := (Kept.refl _ w8).drew
                          have HY8 : Hid (w8.heap[yb]? = some (treeO (.slice (some ad) m c) cur)) := (HK8.out.block _ (heap_lt HY7.out) id).trans HY7.out
                          go_region_held3 (fun (W : World) => W.cell? ⟨tb, 0, none⟩ = some (.slice (some ad) m c) ∧ W.cell? ⟨tb, 1, none⟩ = some (.int .i64 cur) ∧ W.cell? ⟨(ad.add (i2 * 4)).block, (ad.add (i2 * 4)).off + 3, none⟩ = some (.string otx) ∧ W.cell? ⟨(ad.add (i2 * 4)).block, (ad.add (i2 * 4)).off + 2, none⟩ = some (.int .i64 oat))
                            (first | with_reducible exact KC | with_reducible exact KB | with_reducible exact KA | fail)
                            (first | (go_at_call 14; refine cT.mono ?_; rintro r w9 ⟨⟨v, rfl, hon⟩, hk9⟩; obtain ⟨A2, n2, c2, rfl, _⟩ := hon.sn; have HK9 := Lib.hid (HDR.out.trans hk9); have HON := Lib.hid hon; have HY9 : Hid (w9.heap[yb]? = some (treeO (.slice (some ad) m c) cur)) := (HK9.out.block _ (heap_lt HY8.out) id).trans HY8.out; obtain ⟨y0, y1, y2, y3⟩ := tree_facts HY9.out; have KB := HKF.out w9 (HK8.out.trans HK9.out).any; have KC := HKF.out ((w9.setCell ⟨yb, 0, none⟩ (.slice A2 n2 c2)).setCell ⟨yb, 1, none⟩ (.int .i64 cur)) (Kept.tree (g := yb) (S := fun q => q = yb) (HK8.out.trans HK9.out).any rfl _ _); clear hk9 hon cT))
                          all_goals
                            clear KA KB KC y0 y1 y2 y3
                            have HYA : Hid (((w9.setCell ⟨yb, 0, none⟩ (.slice A2 n2 c2)).setCell ⟨yb, 1, none⟩ (.int .i64 cur)).heap[yb]? = some (treeO (.slice A2 n2 c2) cur)) := tree_set HY9.out _ _
                            have HKA : Hid (Kept (fun q => q = yb) w9 ((w9.setCell ⟨yb, 0, none⟩ (.slice A2 n2 c2)).setCell ⟨yb, 1, none⟩ (.int .i64 cur))) := Kept.tree (g := yb) (S := fun q => q = yb) (Kept.refl (fun q => q = yb) w9) rfl _ _
                            generalize (w9.setCell ⟨yb, 0, none⟩ (.slice A2 n2 c2)).setCell ⟨yb, 1, none⟩ (.int .i64 cur) = wA at *
                            obtain ⟨y0, y1, y2, y3⟩ := tree_facts HYA.out
                            have HAY : Hid (ab ≠ yb) := by
                              show _ ≠ _
                              intro e
                              have h1 := HA7.out
                              rw [e, HY7.out] at h1
                              injection h1 with h1
                              injection h1 with _ h1
                              exact absurd h1 (by decide)
                            have HAA : Hid (wA.heap[ab]? = some (actO8 ⟨aDo, z, aMost, s⟩)) := (((HK8.out.trans HK9.out).any.trans HKA.out).block _ (heap_lt HA7.out) HAY.out).trans HA7.out
                            obtain ⟨_, a1, _⟩ := act_facts4 (a := ⟨aDo, z, aMost, s⟩) HAA.out
                            simp only at a1
                            have HKB : Hid (Kept (fun q => q = yb) wA (wA.setCell ⟨yb, 1, none⟩ (.int .i64 z))) := (Kept.refl (fun q => q = yb) wA).setCell (p := ⟨yb, 1, none⟩) rfl _
                            have HYB2 : Hid ((wA.setCell ⟨yb, 1, none⟩ (.int .i64 z)).heap[yb]? = some (treeO (.slice A2 n2 c2) z)) := (heap_set HYA.out _).trans rfl
                            go_wp2_with fail
                            rw [← HKD.out]
                            go_meet
                            have hkk : Kept (fun q => q = yb) w9 (wA.setCell ⟨yb, 1, none⟩ (.int .i64 z)) := HKA.out.trans HKB.out
                            exact js_led HOW.out HT7.out ⟨_, _, HY7.out⟩ HTYN.out ((HK8.out.trans HK9.out).any.trans hkk) HYB2.out ((HON.out.mono (Nat.zero_le _)).keptK hkk (fun q cs hq e => by
                              subst e
                              have hy := HY9.out
                              rw [hq] at hy
                              injection hy with hy
                              injection hy with _ hy
                              exact absurd hy (by decide))) (fun _ => ⟨rfl, HLO.out⟩)
                        · exact absurd rfl h0
              case rest =>
                obtain ⟨rfl, rfl, rfl, hk8, hjs⟩ := hcut
                obtain ⟨w8, hw8⟩ : ∃ w8, w8 = wc := ⟨_, rfl⟩
                subst hw8
                have HB1 : Hid (1 < B) := by have h1 := HTW.out; have h2 := HX7.out.le; show _ < _; omega
                have HH8 : Hid (Hst B lim hb oL ocur (k + (on : Int)) (i + 1) w8) := HH7.out.keptT hk8 HB1.out (fun q hq => by
                  rcases hq with rfl | rfl
                  · exact ⟨HTB.out, _, _, HT7.out.bx, by decide, by show (2 : Nat) ≤ 3; omega⟩
                  · exact ⟨HYB.out, _, _, HY7.out, by decide, by show (2 : Nat) ≤ 3; omega⟩)
                have HX8 : Hid (Ux w pb B ⟨R, rn, rc, nodes, cur0, some aad, ln, lc, acts⟩ w8) := HX7.out.step (hk8.mono (fun q _ e => by have h1 := HTB.out; have h2 := HYB.out; rcases e with e | e <;> omega))
                have HJ8 := Lib.hid hjs
                have hkb := HH8.out.kb
                clear hk8 hjs HH7 HT7 HX7 HY7 HA7 a0 HO HIC HEI HLL HLQ HWD H9L
                have hml2 : oL.length ≤ 7 := by have := HH8.out.le; omega
                have hml1 : 1 ≤ oL.length := by have := HH8.out.hx.mt.ge; rw [blank_len] at this; exact this
                have HCO : Hid (0 ≤ idx oL ocur) := by have := HH8.out.hx.mt.cu; rw [blank_idx] at this; exact this
                go_upto_if 177 with fail
                go_cut [10] from 178 to 186 (fun x wx => x = .int .i64 (k + (on : Int)) ∧ (∃ v, Tq tb oL ocur v wx) ∧ Kept (fun q => q = tb) w8 wx)
                case first =>
                  as_aux_lemma =>
                    rcases HJ8.out with ⟨rfl, ct, vt, A2, n2, c2, U, D, htb, hyb, hon, hw, hn⟩ | ⟨h0, hn, vt, ht⟩
                    · have hocu : 0 ≤ ocur := by
                        obtain ⟨j1, x1, _, hx1, hs1⟩ := idx_some HCO.out
                        rw [← hs1]
                        exact HH8.out.t9.ord.ge x1 (List.mem_of_getElem? hx1)
                      obtain ⟨ad2, hA2⟩ : ∃ ad2, A2 = some ad2 := by
                        obtain ⟨A', c', e, _, _, hAN⟩ := hon.slice
                        injection e with e1 e2 e3
                        cases A2 with
                        | none => have := (hAN e1.symm).1; omega
                        | some a => exact ⟨a, rfl⟩
                      subst hA2
                      have hng := hon.ngs
                      have hnl := hng.len
                      have hk00 := HKB0.out
                      have cWy := rway_any ad2 n2 c2 oL ocur (treeG oL) ct ocur U D w8 hng (by omega) (treeG_goodN HH8.out.hx.tr) hw (by omega) (way_pos hw hocu) hocu
                      rw [← hn] at cWy
                      obtain ⟨y0, y1, _⟩ := tree_facts hyb
                      obtain ⟨t0, t1, t2, t3⟩ := tree_facts htb
                      have HYB8 := Lib.hid hyb
                      have HTB8 := Lib.hid htb
                      have HON := Lib.hid hon
                      clear hw hnl hng hyb htb hon hocu HJ8 hn HH8
                      go_upto_region 45 with (go_at_call 17; refine cWy.mono ?_; rintro r w9 ⟨rfl, hk9⟩; have HK9 := Lib.hid hk9; have HY9 := Lib.hid ((hk9.block _ (heap_lt HYB8.out) id).trans HYB8.out); have HT9 := Lib.hid ((hk9.block _ (heap_lt HTB8.out) id).trans HTB8.out); clear hk9 cWy y0 y1 t0 t1 t2 t3)
                      obtain ⟨y0, y1, _⟩ := tree_facts HY9.out
                      obtain ⟨t0, t1, t2, t3⟩ := tree_facts HT9.out
                      have HKB : Hid (Kept (fun q => q = tb) w9 ((w9.setCell ⟨tb, 0, none⟩ (.slice (some ad2) n2 c2)).setCell ⟨tb, 1, none⟩ (.int .i64 ocur))) := Kept.tree (g := tb) (S := fun q => q = tb) (Kept.refl (fun q => q = tb) w9) rfl _ _
                      have HTQ : Hid (Tq tb oL ocur (.slice (some ad2) n2 c2) ((w9.setCell ⟨tb, 0, none⟩ (.slice (some ad2) n2 c2)).setCell ⟨tb, 1, none⟩ (.int .i64 ocur))) := ⟨tree_set HT9.out _ _, (HON.out.kept HK9.out).keptK HKB.out (fun q cs hq e => by
                        subst e
                        have hy := HT9.out
                        rw [hq] at hy
                        injection hy with hy
                        injection hy with _ hy
                        exact absurd hy (by decide))⟩
                      go_wp2_with fail
                      go_meet
                      exact ⟨rfl, ⟨_, HTQ.out⟩, HK9.out.any.trans HKB.out⟩
                    · have b0 : (oer == 0) = false := by rw [beq_eq_false_iff_ne]; exact h0
                      subst hn
                      have HT8 := Lib.hid ht
                      clear ht h0 HJ8
                      go_wp2_with fail
                      go_meet
                      exact ⟨by simp, ⟨_, HT8.out⟩, Kept.refl _ _⟩
                case rest =>
                  obtain ⟨rfl, ⟨v9, ht9⟩, hk9⟩ := hcut
                  obtain ⟨w9, hw9⟩ : ∃ w9, w9 = wc := ⟨_, rfl⟩
                  subst hw9
                  have HTB8 : Hid (∃ cs t, w8.heap[tb]? = some (.cells cs t (0, 0)) ∧ t ≠ 71 ∧ cs.size ≤ 3) := by
                    rcases HJ8.out with ⟨_, ct, vt, A2, n2, c2, U, D, htb, _⟩ | ⟨_, _, vt, ht⟩
                    · exact ⟨_, _, htb, by decide, by show (2 : Nat) ≤ 3; omega⟩
                    · exact ⟨_, _, ht.bx, by decide, by show (2 : Nat) ≤ 3; omega⟩
                  have HH9 : Hid (Hst B lim hb oL ocur (k + (on : Int)) (i + 1) w9) := HH8.out.keptT hk9 HB1.out (fun q hq => by subst hq; exact ⟨HTB.out, HTB8.out⟩)
                  have HX9 : Hid (Ux w pb B ⟨R, rn, rc, nodes, cur0, some aad, ln, lc, acts⟩ w9) := HX8.out.step (hk9.mono (fun q _ e => by have h1 := HTB.out; omega))
                  obtain ⟨A9, c9, rfl, hng, hnc9, hAN⟩ := ht9.on.slice
                  obtain ⟨ad9, rfl⟩ : ∃ ad, A9 = some ad := by
                    cases A9 with
                    | none => have := (hAN rfl).1; omega
                    | some ad => exact ⟨ad, rfl⟩
                  have HT9 := Lib.hid ht9
                  obtain ⟨m9, hm9⟩ : ∃ m9, oL.length = m9 := ⟨_, rfl⟩
                  rw [hm9] at HT9 hng hml1 hml2
                  have HNG9 := Lib.hid hng
                  have HSN9 : Hid (∀ W, Kept (fun _ => False) w9 W → Sn W (.slice (some ad9) m9 c9) oL) := fun W hk => (HT9.out.kept hk).on.sn
                  clear ht9 hk9 hng hAN HX8 HH8 HJ8 HTB8 hm9
                  obtain ⟨kn, hkn⟩ : ∃ kn, k + (on : Int) = kn := ⟨_, rfl⟩
                  rw [hkn] at HH9 hkb ⊢
                  clear hkn
                  obtain ⟨jc, xc, hjc, hxc, hsc⟩ := idx_some HCO.out
                  have HTX : Hid (txAt oL ocur = xc.tx) := by show _ = _; rw [← hsc]; exact txAt_eq HH9.out.hx.tr hxc
                  have HRH : Hid (∀ W, Kept (fun _ => False) w9 W → Calls Tryd.prog 21 #[treeV (.slice (some ad9) m9 c9) ocur] W fun r W' => r = .returned (.string xc.tx) ∧ Kept (fun _ => False) W W') := fun W hk => rhere_any ad9 m9 c9 oL ocur W (HNG9.out.kept hk (fun _ _ => id)) (by omega) (HH9.out.hx.tabs.kept hk id id) jc xc hjc hxc
                  have HPH : Hid (∀ W, Kept (fun _ => False) w9 W → Calls Tryd.prog 20 #[.pointer (some ⟨hb, 0, none⟩)] W fun e w' => e = .returned (.string xc.tx) ∧ w' = W) := fun W hk => by
                    have h1 := hxhere_any (HH9.out.hx.kept hk)
                    rw [HTX.out] at h1
                    exact h1
                  have hkk : 0 ≤ kn ∧ kn ≤ 1000000 := by omega
                  have HPP : Hid (∀ W, Kept (fun _ => False) w9 W → Calls Tryd.prog 22 #[.pointer (some ⟨hb, 0, none⟩)] W fun e w' => e = .returned (.int .i64 kn) ∧ w' = W) := fun W hk => hxpat_any (HH9.out.hx.kept hk) hkk
                  have HPT : Hid (∀ W, Kept (fun _ => False) w9 W → Calls Tryd.prog 19 #[.pointer (some ⟨hb, 0, none⟩)] W fun r w' => (∃ v, r = .returned (treeV v ocur) ∧ On w' W.heap.size v oL) ∧ Kept (fun _ => False) W w') := fun W hk => hxtree_any (HH9.out.hx.kept hk) HH9.out.t9
                  have HEQ : Hid (∀ W v, Kept (fun _ => False) w9 W → Sn W v oL → Calls Tryd.prog 18 #[treeV v ocur, treeV (.slice (some ad9) m9 c9) ocur] W fun e w' => e = .returned (.bool true) ∧ Kept (fun _ => False) W w') := fun W v hk hs => eqtree_yes v _ oL ocur W hs (HSN9.out W hk) (by have := HNG9.out.len; omega)
                  clear hjc hxc hsc
                  generalize xc.tx = txc at *
                  have HT0 : Hid (∀ W, Kept (fun _ => False) w9 W → W.cell? ⟨tb, 0, none⟩ = some (.slice (some ad9) m9 c9) ∧ W.cell? ⟨tb, 1, none⟩ = some (.int .i64 ocur)) := fun W hk => ⟨(tree_facts (HT9.out.kept hk).bx).1, (tree_facts (HT9.out.kept hk).bx).2.1⟩
                  go_upto_region 46 with fail
                  go_cut [220] from 187 to 220 (fun v wx => v = .bool false ∧ Kept (fun _ => False) w9 wx)
                  case first =>
                    as_aux_lemma =>
                      have HDR : Hid (Kept (fun _ => False) w9 w9.drew) := (Kept.refl _ w9).drew
                      have KA := HT0.out w9.drew HDR.out
                      have cTr := HPT.out w9.drew HDR.out
                      have r1 : (oer != oer) = false := by simp
                      have r3 : (oat != oat) = false := by simp
                      have r5 : (kn != kn) = false := by simp
                      go_region_held3 (fun (W : World) => W.cell? ⟨tb, 0, none⟩ = some (.slice (some ad9) m9 c9) ∧ W.cell? ⟨tb, 1, none⟩ = some (.int .i64 ocur))
                        (first | with_reducible exact KD | with_reducible exact KC | with_reducible exact KB | with_reducible exact KA | fail)
                        (first
                          | (go_at_call 9; refine (unum_any _ _).mono ?_; rintro e w' ⟨rfl, hw⟩; have hw2 := hw.symm; clear hw; subst hw2)
                          | (go_at_call 19; refine cTr.mono ?_; rintro r wB ⟨⟨vN, rfl, hon⟩, hkB⟩; have HKB := Lib.hid (HDR.out.trans hkB); have KB := HT0.out wB HKB.out; have cEq := HEQ.out wB vN HKB.out hon.sn; clear hkB hon cTr)
                          | (go_at_call 18; refine cEq.mono ?_; rintro r wC ⟨rfl, hkC⟩; have HKC := Lib.hid (HKB.out.trans hkC); have KC := HT0.out wC HKC.out; have cHp := HPH.out wC HKC.out; have cHr := HRH.out wC HKC.out; clear hkC cEq)
                          | (go_at_call 20; refine cHp.mono ?_; rintro e w' ⟨rfl, hw⟩; have hw2 := hw.symm; clear hw cHp; subst hw2)
                          | (go_at_call 21; refine cHr.mono ?_; rintro r wD ⟨rfl, hkD⟩; have HKD := Lib.hid (HKC.out.trans hkD); have KD := HT0.out wD HKD.out; have cPp := HPP.out wD HKD.out; clear hkD cHr)
                          | (go_at_call 22; refine cPp.mono ?_; rintro e w' ⟨rfl, hw⟩; have hw2 := hw.symm; clear hw cPp; subst hw2))
                      all_goals
                        go_wp2_with fail
                        go_meet
                        exact ⟨rfl, HKD.out⟩
                  case rest =>
                    obtain ⟨rfl, hkE⟩ := hcut
                    obtain ⟨wE, hwE⟩ : ∃ wE, wE = wc := ⟨_, rfl⟩
                    subst hwE
                    have HKE := Lib.hid hkE
                    have cTr := HPT.out wE hkE
                    have hoL : oL.length ≤ 100000 := by have := HNG9.out.len; omega
                    clear hkE
                    go_wp2_with (first
                      | (go_at_call 19; refine cTr.mono ?_; rintro r wF ⟨⟨vN, rfl, hon⟩, hkF⟩; have HKF := Lib.hid hkF; have HON := Lib.hid hon; have cSp := spoil_tree vN _ oL ocur wF hon hoL; clear hkF hon cTr)
                      | (go_at_call 23; refine cSp.mono ?_; rintro r wG ⟨rfl, hkG⟩; have HKG : Hid (Kept (fun _ => False) wE wG) := HKF.out.fresh hkG (fun q hq e => by have := (HON.out.lt q e).1; omega); clear hkG cSp))
                    go_roundw
                    case rel =>
                      have hkk2 := HKE.out.trans HKG.out
                      exact ⟨i + 1, oL, ocur, kn, _, by omega, by omega, rfl, by go_num, HH9.out.kept hkk2, HT9.out.kept hkk2, HX9.out.kept hkk2⟩
                    case measure => simp [intOf]; omega
          · as_aux_lemma =>
              have hcase : (decide (i < ln) = false ∧ decide ((i : Int) < (ln : Int)) = false) ∨ (decide (i < ln) = true ∧ decide ((i : Int) < (ln : Int)) = true ∧ decide (i < 16) = false ∧ decide ((i : Int) < 16) = false) := by
                by_cases h1 : i < ln
                · refine .inr ⟨decide_eq_true h1, decide_eq_true (by omega), decide_eq_false (fun h => hgo ⟨h1, h⟩), decide_eq_false (fun h => hgo ⟨h1, by omega⟩)⟩
                · exact .inl ⟨decide_eq_false h1, decide_eq_false (by omega)⟩
              have HSN9 : Hid (∀ W, Kept (fun _ => False) wr W → Sn W (.slice (some ad) m c) L) := fun W hk => (HT.out.kept hk).on.sn
              have HPT : Hid (∀ W, Kept (fun _ => False) wr W → Calls Tryd.prog 19 #[.pointer (some ⟨hb, 0, none⟩)] W fun r w' => (∃ v, r = .returned (treeV v cur) ∧ On w' W.heap.size v L) ∧ Kept (fun _ => False) W w') := fun W hk => hxtree_any (HH.out.hx.kept hk) HH.out.t9
              have HEQ : Hid (∀ W v, Kept (fun _ => False) wr W → Sn W v L → Calls Tryd.prog 18 #[treeV v cur, treeV (.slice (some ad) m c) cur] W fun e w' => e = .returned (.bool true) ∧ Kept (fun _ => False) W w') := fun W v hk hs => eqtree_yes v _ L cur W hs (HSN9.out W hk) (by have := HM.out; omega)
              have HWK : Hid (∀ W, Kept (fun _ => False) wr W → Calls Tryd.prog 24 #[] W fun e w' => e = .returned (.bool true) ∧ Kept (fun _ => False) W w') := fun W hk => hwakes_any W (HH.out.hx.tabs.kept hk id id)
              have HT0 : Hid (∀ W, Kept (fun _ => False) wr W → W.cell? ⟨tb, 0, none⟩ = some (.slice (some ad) m c) ∧ W.cell? ⟨tb, 1, none⟩ = some (.int .i64 cur)) := fun W hk => ⟨(tree_facts (HT.out.kept hk).bx).1, (tree_facts (HT.out.kept hk).bx).2.1⟩
              have HDR : Hid (Kept (fun _ => False) wr wr.drew) := (Kept.refl _ wr).drew
              have KA := HT0.out wr.drew HDR.out
              have cTr := HPT.out wr.drew HDR.out
              clear hgo
              rcases hcase with ⟨b1, b2⟩ | ⟨b1, b2, b3, b4⟩
              all_goals
                go_upto_region 49 with fail
                go_region_held3 (fun (W : World) => W.cell? ⟨tb, 0, none⟩ = some (.slice (some ad) m c) ∧ W.cell? ⟨tb, 1, none⟩ = some (.int .i64 cur))
                  (first | with_reducible exact KD | with_reducible exact KC | with_reducible exact KB | with_reducible exact KA | fail)
                  (first
                    | (go_at_call 19; refine cTr.mono ?_; rintro r wB ⟨⟨vN, rfl, hon⟩, hkB⟩; have HKB := Lib.hid (HDR.out.trans hkB); have KB := HT0.out wB HKB.out; have cEq := HEQ.out wB vN HKB.out hon.sn; clear hkB hon cTr)
                    | (go_at_call 18; refine cEq.mono ?_; rintro r wC ⟨rfl, hkC⟩; have HKC := Lib.hid (HKB.out.trans hkC); have KC := HT0.out wC HKC.out; have cWk := HWK.out wC HKC.out; clear hkC cEq)
                    | (go_at_call 24; refine cWk.mono ?_; rintro r wD ⟨rfl, hkD⟩; have HKD := Lib.hid (HKC.out.trans hkD); have KD := HT0.out wD HKD.out; clear hkD cWk))
                all_goals
                  go_wp2_with fail
                  exact bodyPost_ret (results_tmp rfl _ _ _) rfl ⟨rfl, HX.out.kp.trans HKD.out⟩
end Go.Proofs.YthbfmdnibijapaaDoor
