/-
  HISTORY: patches in reverse.
  HISTORY: the way from a node to whichever other one; led there.
  HISTORY: the way from a node to whichever other one; led there.
  HISTORY: the way from a node to whichever other one; led there.
-/
import Derived.Test.YthbfmdnibijapaaDoorHz09
import Derived.Test.YthbfmdnibijapaaDoorHz11
set_option linter.unusedVariables false
namespace Go.Proofs.YthbfmdnibijapaaDoor
open Go Go.RowKit

/-- Patches in a block of their own. -/
def Rp (W : World) (g : Nat) (D : List PatS) : Prop := ∃ cs, W.heap[g]? = some (.cells cs 79 (0, 0)) ∧ D.length * 3 ≤ cs.size ∧ ∀ k p, D[k]? = some p → cs[k * 3]? = some (.int .i64 p.pat) ∧ cs[k * 3 + 1]? = some (.int .i64 p.del) ∧ cs[k * 3 + 2]? = some (.string p.ins)
theorem Rp.of {W : World} {B : Nat} {v : Value} {D : List PatS} (h : Op3 W B v D) (hl : 0 < D.length) : ∃ g c, v = .slice (some ⟨g, 0, none⟩) D.length c ∧ B ≤ g ∧ D.length ≤ c ∧ Rp W g D := by
  rcases h.2 with ⟨_, hn⟩ | ⟨g, cap, cs, rfl, hb, hh, hcap, _, hsz, hfl⟩
  · omega
  · refine ⟨g, cap, rfl, hb, hcap, cs, hh, by omega, fun k p hp => ?_⟩
    have hget : ∀ j u, (flatP D)[j]? = some u → cs[j]? = some u := fun j u hj => by
      rw [← hfl, List.getElem?_take] at hj
      split at hj
      · rw [← Array.getElem?_toList]; exact hj
      · cases hj
    exact ⟨hget _ _ (flatP_get hp (f := 0) rfl), hget _ _ (flatP_get hp (f := 1) rfl), hget _ _ (flatP_get hp (f := 2) rfl)⟩
theorem Rp.ps {W : World} {g : Nat} {D : List PatS} (h : Rp W g D) : Ps W (some ⟨g, 0, none⟩) D.length D := by
  obtain ⟨cs, h1, h2, h3⟩ := h
  refine ⟨rfl, fun k p hp => ⟨_, rfl, ?_⟩⟩
  obtain ⟨a0, a1, a2⟩ := h3 k p hp
  have e : (⟨g, 0, none⟩ : Addr).add (k * 3) = ⟨g, k * 3, none⟩ := by rw [addr_add, Nat.zero_add]
  rw [e]
  refine ⟨?_, ?_, ?_⟩
  · rw [cell_of_row _ _ _ _ _ _ h1]; exact a0
  · show World.cell? _ ⟨g, k * 3 + 1, none⟩ = _
    rw [cell_of_row _ _ _ _ _ _ h1]; exact a1
  · show World.cell? _ ⟨g, k * 3 + 2, none⟩ = _
    rw [cell_of_row _ _ _ _ _ _ h1]; exact a2
theorem Rp.kept {S : Nat → Prop} {W W' : World} {g : Nat} {D : List PatS} (h : Rp W g D) (hk : Kept S W W') (hs : ¬ S g) : Rp W' g D := by
  obtain ⟨cs, h1, h2⟩ := h
  exact ⟨cs, (hk.block g (heap_lt h1) hs).trans h1, h2⟩
/-- One patch written. -/
theorem Rp.set {W : World} {g : Nat} {D : List PatS} (h : Rp W g D) {i : Nat} (hi : i < D.length) (p : PatS) : Rp (((W.setCell ⟨g, i * 3, none⟩ (.int .i64 p.pat)).setCell ⟨g, i * 3 + 1, none⟩ (.int .i64 p.del)).setCell ⟨g, i * 3 + 2, none⟩ (.string p.ins)) g (D.set i p) := by
  obtain ⟨cs, h1, h2, h3⟩ := h
  refine ⟨putL cs (i * 3) p.vs, heap_setCells p.vs (i * 3) W g cs _ _ h1, by rw [putL_size, List.length_set]; exact h2, fun k q hq => ?_⟩
  have hlen : p.vs.length = 3 := rfl
  rw [List.getElem?_set] at hq
  by_cases hk : i = k
  · subst hk
    rw [if_pos rfl, if_pos hi] at hq
    injection hq with hq
    subst hq
    refine ⟨?_, ?_, ?_⟩
    · rw [putL_in _ _ _ _ (by omega) (by omega) (by omega), Nat.sub_self]; rfl
    · rw [putL_in _ _ _ _ (by omega) (by omega) (by omega), show i * 3 + 1 - i * 3 = 1 by omega]; rfl
    · rw [putL_in _ _ _ _ (by omega) (by omega) (by omega), show i * 3 + 2 - i * 3 = 2 by omega]; rfl
  · rw [if_neg hk] at hq
    obtain ⟨a0, a1, a2⟩ := h3 k q hq
    exact ⟨by rw [putL_out _ _ _ _ (by omega)]; exact a0, by rw [putL_out _ _ _ _ (by omega)]; exact a1, by rw [putL_out _ _ _ _ (by omega)]; exact a2⟩
theorem Rp.at_ {W : World} {g : Nat} {D : List PatS} (h : Rp W g D) {i : Nat} {p : PatS} (hp : D[i]? = some p) : W.cell? ⟨g, i * 3, none⟩ = some (.int .i64 p.pat) ∧ W.cell? ⟨g, i * 3 + 1, none⟩ = some (.int .i64 p.del) ∧ W.cell? ⟨g, i * 3 + 2, none⟩ = some (.string p.ins) := by
  obtain ⟨cs, h1, h2, h3⟩ := h
  obtain ⟨a0, a1, a2⟩ := h3 i p hp
  exact ⟨by rw [cell_of_row _ _ _ _ _ _ h1]; exact a0, by rw [cell_of_row _ _ _ _ _ _ h1]; exact a1, by rw [cell_of_row _ _ _ _ _ _ h1]; exact a2⟩
theorem Rp.free {W : World} {g : Nat} {D : List PatS} (h : Rp W g D) (j : Nat) : W.frozen? ⟨g, j, none⟩ = false := by
  obtain ⟨cs, h1, _⟩ := h
  exact frozen_of h1
theorem Rp.drew {W : World} {g : Nat} {D : List PatS} (h : Rp W g D) : Rp W.drew g D := h.kept ((Kept.refl (fun _ => False) W).drew) id
/-- On the way of being turned about. -/
def Rev (D E : List PatS) (i : Nat) : Prop := E.length = D.length ∧ ∀ k, k < D.length → E[k]? = if k < i ∨ D.length ≤ k + i then D[D.length - 1 - k]? else D[k]?
theorem rev_end {D E : List PatS} {i : Nat} (h : Rev D E i) (h1 : D.length ≤ 2 * i + 1) : E = D.reverse := by
  apply List.ext_getElem?
  intro k
  by_cases hk : k < D.length
  · rw [h.2 k hk, List.getElem?_reverse hk]
    split
    · rfl
    · rw [show D.length - 1 - k = k by omega]
  · rw [List.getElem?_eq_none (by rw [h.1]; omega), List.getElem?_eq_none (by simp; omega)]
theorem rev_step {D E : List PatS} {i : Nat} {a b : PatS} (h : Rev D E i) (h1 : i < D.length - 1 - i) (ha : E[i]? = some a) (hb : E[D.length - 1 - i]? = some b) : Rev D ((E.set i b).set (D.length - 1 - i) a) (i + 1) := by
  have hl := h.1
  refine ⟨by simp [hl], fun k hk => ?_⟩
  rw [h.2 i (by omega), if_neg (by omega)] at ha
  rw [h.2 _ (by omega), if_neg (by omega)] at hb
  rw [List.getElem?_set]
  by_cases e1 : D.length - 1 - i = k
  · rw [if_pos e1, if_pos (by simp; omega), if_pos (by omega), ← ha]
    congr 1
    omega
  · rw [if_neg e1, List.getElem?_set]
    by_cases e2 : i = k
    · rw [if_pos e2, if_pos (by omega), if_pos (by omega), ← hb]
      congr 1
      omega
    · rw [if_neg e2, h.2 k hk]
      by_cases e3 : k < i ∨ D.length ≤ k + i
      · rw [if_pos e3, if_pos (by omega)]
      · rw [if_neg e3, if_neg (by omega)]
set_option maxRecDepth 100000 in
set_option maxHeartbeats 4000000 in
theorem hrev_any (g c : Nat) (D : List PatS) (w : World) (h : Rp w g D) (hn : D.length ≤ 1000) (hn1 : 1 ≤ D.length) :
    Calls Tryd.prog 55 #[.slice (some ⟨g, 0, none⟩) D.length c] w fun e w' => e = .returned (.tuple #[]) ∧ Rp w' g D.reverse ∧ Kept (fun q => q = g) w w' := by
  have HR := Lib.hid h
  obtain ⟨n, hN⟩ : ∃ n, D.length = n := ⟨_, rfl⟩
  have HN := Lib.hid hN
  rw [hN] at hn hn1 ⊢
  have wn : IntKind.i64.wrap ((n : Int) - 1) = ((n - 1 : Nat) : Int) := by rw [show (n : Int) - 1 = ((n - 1 : Nat) : Int) by omega]; exact IntWalk.i64_in _ ⟨by omega, by omega⟩
  obtain ⟨m, hm⟩ : ∃ m, n - 1 = m := ⟨_, rfl⟩
  have HM := Lib.hid hm
  rw [hm] at wn
  clear h hN hm
  go_enter Tryd.func55, Tryd.ntmps55
  go_wp2_with fail
  clear wn
  go_loopw [2, 3] (fun v u wr => ∃ (i : Nat) (j : Int) (E : List PatS), i ≤ n ∧ v = .int .i64 i ∧ u = .int .i64 j ∧ j = (m : Int) - i ∧ Rev D E i ∧ Rp wr g E ∧ Kept (fun q => q = g) w wr) (fun v _ _ => n - (intOf v).toNat)
  case atStart => exact ⟨0, m, D, Nat.zero_le _, rfl, rfl, by omega, ⟨rfl, fun k hk => by rw [if_neg (by omega)]⟩, HR.out, Kept.refl _ _⟩
  case round =>
    obtain ⟨i, j, E, hi, rfl, rfl, hj, hrev, hrp, hk⟩ := hrel
    have HK := Lib.hid hk
    have HREV := Lib.hid hrev
    have HRP := Lib.hid hrp
    have hEl : E.length = n := by rw [hrev.1]; exact HN.out
    clear hk hrev
    by_cases hlt : (i : Int) < j
    · obtain ⟨jn, rfl⟩ : ∃ jn : Nat, j = (jn : Int) := ⟨j.toNat, by omega⟩
      have hjn : n - 1 - i = jn := by have := HM.out; omega
      obtain ⟨a, ha⟩ : ∃ a, E[i]? = some a := ⟨_, List.getElem?_eq_getElem (by omega)⟩
      obtain ⟨b, hb⟩ : ∃ b, E[jn]? = some b := ⟨_, List.getElem?_eq_getElem (by omega)⟩
      have HST : Hid (Rev D ((E.set i b).set jn a) (i + 1)) := by
        have h1 := rev_step HREV.out (by rw [HN.out]; omega) ha (by rw [HN.out, hjn]; exact hb)
        rw [HN.out, hjn] at h1
        exact h1
      have hd := hrp
      obtain ⟨a0, a1, a2⟩ := hd.at_ ha
      obtain ⟨d0, d1, d2⟩ := hd.at_ hb
      have hfr := hd.free
      have i0 := hfr (i * 3)
      have i1 := hfr (i * 3 + 1)
      have i2 := hfr (i * 3 + 2)
      have j0 := hfr (jn * 3)
      have j1 := hfr (jn * 3 + 1)
      have j2 := hfr (jn * 3 + 2)
      have HR2 := Lib.hid ((hd.set (i := i) (by omega) b).set (i := jn) (by simp; omega) a).drew
      have b1 : decide ((i : Int) < (jn : Int)) = true := decide_eq_true hlt
      have b2 : decide (i < jn) = true := decide_eq_true (by omega)
      have t1 : (0 : Int) ≤ (i : Int) := by omega
      have t2 : (i : Int) < (n : Int) := by omega
      have t3 : (0 : Int) ≤ (jn : Int) := by omega
      have t4 : (jn : Int) < (n : Int) := by omega
      have wj : IntKind.i64.wrap ((jn : Int) - 1) = (jn : Int) - 1 := IntWalk.i64_in _ ⟨by omega, by omega⟩
      obtain ⟨x0, x1, x2⟩ := a
      obtain ⟨y0, y1, y2⟩ := b
      simp only at a0 a1 a2 d0 d1 d2 HR2
      have HJ := Lib.hid hj
      clear ha hb hfr hd hrp hj hjn
      go_wp2_with fail
      go_region
      go_wp2_with fail
      go_roundw
      case rel =>
        refine ⟨i + 1, (jn : Int) - 1, _, by omega, by go_num, rfl, by have := HJ.out; omega, HST.out, HR2.out, ?_⟩
        exact ((((((HK.out.setCell (p := ⟨g, _, none⟩) rfl _).setCell (p := ⟨g, _, none⟩) rfl _).setCell (p := ⟨g, _, none⟩) rfl _).setCell (p := ⟨g, _, none⟩) rfl _).setCell (p := ⟨g, _, none⟩) rfl _).setCell (p := ⟨g, _, none⟩) rfl _).drew
      case measure => simp [intOf] <;> omega
    · have b1 : decide ((i : Int) < j) = false := decide_eq_false hlt
      have HE : Hid (E = D.reverse) := rev_end HREV.out (by rw [HN.out]; have := HM.out; omega)
      go_wp2_with fail
      go_end0
      exact ⟨rfl, by rw [← HE.out]; exact HRP.out, HK.out⟩
end Go.Proofs.YthbfmdnibijapaaDoor
namespace Go.Proofs.YthbfmdnibijapaaDoor
open Go Go.RowKit

theorem rev_two {W : World} {B : Nat} {x y : Value} {U D : List PatS} (h : Two W B x y U D) (hn : D.length ≤ 1000) :
    ∃ A n c, y = .slice A n c ∧ (n = D.length ∧ (A = none → n = 0 ∧ c = 0)) ∧ Calls Tryd.prog 55 #[.slice A n c] W fun e w' => e = .returned (.tuple #[]) ∧ Op3 w' B x U ∧ Ps w' A n D.reverse ∧ B ≤ w'.heap.size ∧ Kept (fun q => y.ownBlock = some q) W w' := by
  by_cases h0 : D.length = 0
  · obtain ⟨A, c, rfl, hp, hc, hno, _⟩ := h.d.ps
    have hD := List.eq_nil_of_length_eq_zero h0
    subst hD
    refine ⟨A, _, c, rfl, ⟨rfl, hno⟩, (hrev_one A _ c W (by simp)).mono ?_⟩
    rintro e w' ⟨rfl, hk⟩
    exact ⟨rfl, h.u.kept hk, hp.kept hk (fun _ _ => id), Nat.le_trans h.b hk.size, hk.any⟩
  · obtain ⟨g, c, rfl, hb, hc, hr⟩ := Rp.of h.d (by omega)
    refine ⟨_, _, c, rfl, ⟨rfl, fun h => by cases h⟩, (hrev_any g c D W hr hn (by omega)).mono ?_⟩
    rintro e w' ⟨rfl, hr', hk⟩
    have hps := hr'.ps
    rw [List.length_reverse] at hps
    refine ⟨rfl, ?_, hps, Nat.le_trans h.b hk.size, hk.mono (fun q _ e => by subst e; rfl)⟩
    refine ⟨h.u.1, ?_⟩
    rcases h.u.2 with hn' | ⟨g', cap, cur, e, hb', hgg, rest⟩
    · exact .inl hn'
    · exact .inr ⟨g', cap, cur, e, hb', (hk.block g' (heap_lt hgg) (fun e' => h.ne g' (by rw [e]; rfl) (by subst e'; rfl))).trans hgg, rest⟩
end Go.Proofs.YthbfmdnibijapaaDoor
namespace Go.Proofs.YthbfmdnibijapaaDoor
open Go Go.RowKit

section
variable {most : Int} {ad : Addr} {n c : Nat} {L : List NodeS} {cur : Int} {mb hb : Nat} {s : ByteArray} {k : Int} {kv : List (Int × Value)}
set_option maxRecDepth 100000 in
set_option maxHeartbeats 8000000 in
theorem path_gen (G : Int → Option (Int × PatS × PatS)) (f0 t0 : Int) (U0 D0 : List PatS) (w : World) (h : Hq most ad n c L cur mb hb s k kv w) (hn : n ≤ 64) (hG : Good L kv G) (hW : Way G f0 t0 U0 D0) (hU : U0.length ≤ 1000) (hD : D0.length ≤ 1000) (hf : 0 ≤ f0) (ht : 0 ≤ t0) :
    Calls Tryd.prog 39 #[.pointer (some ⟨hb, 0, none⟩), .int .i64 f0, .int .i64 t0] w fun r w' => (∃ v, r = .returned v ∧ Op3 w' w.heap.size v (U0 ++ D0.reverse)) ∧ Kept (fun _ => False) w w' := by
  have HH := Lib.hid h
  have HG := Lib.hid hG
  have HWY := Lib.hid hW
  obtain ⟨B, hB⟩ : ∃ B, w.heap.size = B := ⟨_, rfl⟩
  rw [hB]
  have HB := Lib.hid hB
  clear h hG hW hB
  go_enter Tryd.func39, Tryd.ntmps39
  go_wp2_with fail
  go_loopw [1, 2, 7, 8] (fun a b x y wr => ∃ (f t : Int) (U1 D1 U D : List PatS) (vx vy : Value), vx = x ∧ vy = y ∧ a = .int .i64 f ∧ b = .int .i64 t ∧ 0 ≤ f ∧ 0 ≤ t ∧ Two wr B vx vy U1 D1 ∧ Way G f t U D ∧ U1 ++ U = U0 ∧ D1 ++ D = D0 ∧ Kept (fun _ => False) w wr) (fun a b _ _ _ => (intOf a).toNat + (intOf b).toNat)
  case atStart => exact ⟨f0, t0, [], [], U0, D0, _, _, rfl, rfl, rfl, rfl, hf, ht, ⟨op3_nil _ _, op3_nil _ _, (fun g h => by cases h), by rw [HB.out]; exact Nat.le_refl _⟩, HWY.out, rfl, rfl, Kept.refl _ _⟩
  case round =>
    obtain ⟨f, t, U1, D1, U, D, vx, vy, hvx, hvy, rfl, rfl, hf', ht', h2, hw, hu, hd, hkept⟩ := hrel
    subst hvx
    subst hvy
    have HK := Lib.hid hkept
    have H2 := Lib.hid h2
    have HU := Lib.hid hu
    have HD := Lib.hid hd
    have hul : U1.length + U.length ≤ 1000 := by rw [← List.length_append, hu]; exact hU
    have hdl : D1.length + D.length ≤ 1000 := by rw [← List.length_append, hd]; exact hD
    have HQ := Lib.hid (HH.out.kept hkept)
    obtain ⟨_, _, _, f3, _, _⟩ := hist_facts HQ.out.box
    clear hkept h2 hu hd
    cases hw with
    | done =>
      have b1 : (f != f) = false := by simp
      have b2 : (f == f) = true := by simp
      have hd1 : D1.length ≤ 1000 := by omega
      obtain ⟨AD, nD, cD, hyD, hnD, cR⟩ := rev_two H2.out hd1
      subst hyD
      have HND := Lib.hid hnD
      have hown : ∀ q, (Value.slice AD nD cD).ownBlock = some q → w.heap.size ≤ q := fun q e => by rw [HB.out]; exact (H2.out.d.lt q e).1
      have HCR : Hid (Calls Tryd.prog 55 #[.slice AD nD cD] wr fun e w' => e = .returned (.tuple #[]) ∧ (Op3 w' B vx U1 ∧ Ps w' AD nD D1.reverse ∧ B ≤ w'.heap.size) ∧ Kept (fun _ => False) w w') := by
        refine cR.mono ?_
        rintro e w' ⟨h1, h2, h3, h4, h5⟩
        exact ⟨h1, ⟨h2, h3, h4⟩, HK.out.fresh h5 (fun q hq e => absurd hq (Nat.not_lt.2 (hown q e)))⟩
      obtain ⟨RV, hRV⟩ : ∃ RV, D1.reverse = RV := ⟨_, rfl⟩
      rw [hRV] at HCR
      have HRV := Lib.hid hRV
      clear cR hown hRV hnD
      go_wp2_with (first
        | (go_at_call 55; refine HCR.out.mono ?_; rintro e w2 ⟨rfl, hh, hk2⟩; have HH2 := Lib.hid hh; have HK2 := Lib.hid hk2; clear hh hk2)
        | (at_builtin; refine wpList_app_pats rfl (.tmp 43) (.tmp 44) rfl B _ U1 rfl HH2.out.1 _ _ _ RV rfl HH2.out.2.1 HND.out.2 (by have := HND.out.1; omega) HH2.out.2.2 ?_; intro v3 w3 hv3 hg3 ho3; have HO3 := Lib.hid hv3; have HK3 := Lib.hid (grew_kept HK2.out HB.out HH2.out.1 hg3); clear hv3 hg3 ho3))
      go_ret
      refine ⟨⟨_, rfl, ?_⟩, HK3.out⟩
      have h1 := HU.out
      have h2 := HD.out
      rw [List.append_nil] at h1 h2
      subst h1
      subst h2
      rw [HRV.out]
      exact HO3.out
    | @up _ _ q d u U' _ hlt hg hq hr =>
      obtain ⟨i, e, hi, he, hpa, hlk, hwf⟩ := HG.out _ _ _ _ hg
      have b1 : (f != t) = true := by simp; omega
      have b2 : (f == t) = false := by rw [beq_eq_false_iff_ne]; omega
      have b3 : decide (t < f) = true := decide_eq_true hlt
      have hget := fun W (hM : MapI W mb kv) => MapI.get Tryd.underlying64 Tryd.underlying3 hM hwf hlk
      have hg0 := hget _ HQ.out.mp
      have hup := fun W => lnk_up d u W
      have cP := fun W (h : Hq most ad n c L cur mb hb s k kv W) => parent_any f i e W h hn hi he
      rw [hpa] at cP
      have HCP := Lib.hid cP
      have HR := Lib.hid hr
      have H2A := Lib.hid (H2.out.kept ((Kept.refl (fun _ => False) wr).alloc (.cells #[.int .i64 u.pat, .int .i64 u.del, .string u.ins] 79)))
      have HPB := Lib.hid (ps_built wr u)
      have HKA := Lib.hid (HK.out.alloc (.cells #[.int .i64 u.pat, .int .i64 u.del, .string u.ins] 79))
      have hul2 : U1.length + 1 ≤ 1000 := by simp at hul; omega
      obtain ⟨u0, u1, u2⟩ := u
      simp only at H2A HPB HKA
      clear hg hi he hpa hlk hget cP hr
      go_wp2_with (first
        | (at_builtin; refine wpList_app_pats rfl (.tmp 15) (.tmp 23) rfl B _ U1 rfl H2A.out.u _ 1 1 [⟨u0, u1, u2⟩] rfl HPB.out (fun h => by cases h) (by omega) H2A.out.b ?_; intro v3 w3 hv3 hg3 ho3; have H23 := Lib.hid (H2A.out.app hv3 hg3 ho3); have HK3 := Lib.hid (grew_kept HKA.out HB.out H2A.out.u hg3); have HQ3 := Lib.hid (HH.out.kept HK3.out); clear hv3 hg3 ho3)
        | (go_at_call 54; refine (HCP.out _ HQ3.out).mono ?_; rintro e w4 ⟨rfl, hk4⟩; have HK4 := Lib.hid (HK3.out.trans hk4); have H24 := Lib.hid (H23.out.kept hk4); clear hk4))
      go_roundw
      case rel => exact ⟨q, t, U1 ++ [⟨u0, u1, u2⟩], D1, U', D, _, _, rfl, rfl, rfl, rfl, hq.1, ht', H24.out, HR.out, by rw [List.append_assoc]; exact HU.out, HD.out, HK4.out⟩
      case measure => simp [intOf] <;> omega
    | @down _ _ q d u _ D' hlt hg hq hr =>
      obtain ⟨i, e, hi, he, hpa, hlk, hwf⟩ := HG.out _ _ _ _ hg
      have b1 : (f != t) = true := by simp; omega
      have b2 : (f == t) = false := by rw [beq_eq_false_iff_ne]; omega
      have b3 : decide (t < f) = false := decide_eq_false (by omega)
      have hget := fun W (hM : MapI W mb kv) => MapI.get Tryd.underlying64 Tryd.underlying3 hM hwf hlk
      have hg0 := hget _ HQ.out.mp
      have hup := fun W => lnk_down d u W
      have cP := fun W (h : Hq most ad n c L cur mb hb s k kv W) => parent_any t i e W h hn hi he
      rw [hpa] at cP
      have HCP := Lib.hid cP
      have HR := Lib.hid hr
      have H2A := Lib.hid (H2.out.kept ((Kept.refl (fun _ => False) wr).alloc (.cells #[.int .i64 d.pat, .int .i64 d.del, .string d.ins] 79))).swap
      have HPB := Lib.hid (ps_built wr d)
      have HKA := Lib.hid (HK.out.alloc (.cells #[.int .i64 d.pat, .int .i64 d.del, .string d.ins] 79))
      have hdl2 : D1.length + 1 ≤ 1000 := by simp at hdl; omega
      obtain ⟨u0, u1, u2⟩ := d
      simp only at H2A HPB HKA
      clear hg hi he hpa hlk hget cP hr
      go_wp2_with (first
        | (at_builtin; refine wpList_app_pats rfl (.tmp 28) (.tmp 36) rfl B _ D1 rfl H2A.out.u _ 1 1 [⟨u0, u1, u2⟩] rfl HPB.out (fun h => by cases h) (by omega) H2A.out.b ?_; intro v3 w3 hv3 hg3 ho3; have H23 := Lib.hid (H2A.out.app hv3 hg3 ho3).swap; have HK3 := Lib.hid (grew_kept HKA.out HB.out H2A.out.u hg3); have HQ3 := Lib.hid (HH.out.kept HK3.out); clear hv3 hg3 ho3)
        | (go_at_call 54; refine (HCP.out _ HQ3.out).mono ?_; rintro e w4 ⟨rfl, hk4⟩; have HK4 := Lib.hid (HK3.out.trans hk4); have H24 := Lib.hid (H23.out.kept hk4); clear hk4))
      go_roundw
      case rel => exact ⟨f, q, U1, D1 ++ [⟨u0, u1, u2⟩], U, D', _, _, rfl, rfl, rfl, rfl, hf', hq.1, H24.out, HR.out, HU.out, by rw [List.append_assoc]; exact HD.out, HK4.out⟩
      case measure => simp [intOf] <;> omega
end
end Go.Proofs.YthbfmdnibijapaaDoor
namespace Go.Proofs.YthbfmdnibijapaaDoor
open Go Go.RowKit

section
variable {most : Int} {ad : Addr} {n c : Nat} {L : List NodeS} {cur : Int} {mb hb : Nat} {s : ByteArray} {k : Int} {kv : List (Int × Value)}
set_option maxRecDepth 100000 in
set_option maxHeartbeats 4000000 in
theorem hto_gen (A' : Option Addr) (n' c' : Nat) (cur' at' : Int) (s' z : ByteArray) (Q : List ByteArray) (G : Int → Option (Int × PatS × PatS)) (U0 D0 : List PatS) (w : World) (h : Hq most ad n c L cur mb hb s k kv w) (hn : n ≤ 64) (hG : Good L kv G) (hW : Way G cur cur' U0 D0) (hU : U0.length ≤ 1000) (hD : D0.length ≤ 1000) (hf : 0 ≤ cur) (ht : 0 ≤ cur')
    (hch : U0 ++ D0.reverse = chain s Q) (hq : Q.length ≤ 1000) (hmay : ∀ t ∈ s :: Q, mayB t = true) (hz : (s :: Q).getLast? = some z) (hk : 0 ≤ k ∧ k ≤ 1000000) :
    Calls Tryd.prog 45 #[.pointer (some ⟨hb, 0, none⟩), treeV (.slice A' n' c') cur', .string s', .int .i64 at', .int .i64 0] w fun r w' => r = .returned (.tuple #[.string z, .int .i64 at', .int .i64 0]) ∧ w'.heap[hb]? = some (histO most (.slice A' n' c') cur' mb z (k + (Q.length : Nat))) ∧ Kept (fun q => q = hb) w w' := by
  have hlt := heap_lt h.box
  have hk0 : Kept (fun _ => False) w (w.alloc (treeO (.slice A' n' c') cur')) := (Kept.refl _ w).alloc _
  have HH := Lib.hid (h.kept hk0)
  have HT0 := Lib.hid (heap_alloc_new w (treeO (.slice A' n' c') cur'))
  have HK0 := Lib.hid hk0
  have cP := fun W (h : Hq most ad n c L cur mb hb s k kv W) => path_gen G cur cur' U0 D0 W h hn hG hW hU hD hf ht
  rw [hch] at cP
  have HCP := Lib.hid cP
  have hcl := chain_len s Q
  have HCL := Lib.hid hcl
  have cA := fun A m cc W (hP : Ps W A m (chain s Q)) (hT : Tabs W) => happly_any A m cc s Q W hP hT (by have := hP.len; omega) hmay z hz
  have HCA := Lib.hid cA
  obtain ⟨N, hN⟩ : ∃ N, (chain s Q).length = N := ⟨_, rfl⟩
  have HN := Lib.hid hN
  have hNQ : Q.length = N := by rw [← hN, hcl]
  rw [hNQ]
  rw [hNQ] at hq
  obtain ⟨tb, htb⟩ : ∃ tb, w.heap.size = tb := ⟨_, rfl⟩
  have HTB := Lib.hid htb
  have hne : ¬ tb = hb := by omega
  rw [htb] at HT0
  clear h hk0 hG hW hch hmay hz cP cA htb hcl hN hNQ
  go_enter Tryd.func45, Tryd.ntmps45
  go_upto_region 3 with fail
  simp only [HTB.out]
  simp only [treeO] at HH HT0 HK0
  generalize w.alloc _ = w0 at *
  have KF : Hid (∀ W, Kept (fun _ => False) w0 W → W.cell? ⟨hb, 2, none⟩ = some (.int .i64 cur) ∧ W.cell? ⟨tb, 1, none⟩ = some (.int .i64 cur')) := by
    show ∀ W, _
    intro W hk
    exact ⟨(hist_facts (HH.out.kept hk).box).2.2.1, (tree_facts ((hk.block _ (heap_lt HT0.out) id).trans HT0.out)).2.1⟩
  have KA := KF.out w0.drew (Kept.refl _ w0).drew
  have HD := Lib.hid (HH.out.kept (Kept.refl (fun _ => False) w0).drew)
  go_region_held3 (fun (W : World) => W.cell? ⟨hb, 2, none⟩ = some (.int .i64 cur) ∧ W.cell? ⟨tb, 1, none⟩ = some (.int .i64 cur'))
    (first | with_reducible exact KB | with_reducible exact KA)
    (first | (go_at_call 39; refine (HCP.out _ HD.out).mono ?_; rintro r w2 ⟨⟨v, rfl, hO⟩, hk2⟩; obtain ⟨AP, cP, rfl, hP, hPc, hPn, hPb⟩ := hO.ps; have HK2 := Lib.hid ((Kept.refl (fun _ => False) w0).drew.trans hk2); have KB := KF.out w2 HK2.out; have HP := Lib.hid hP; clear hk2 hO hP hPn hPb))
  all_goals
    clear KA KB
    rw [HN.out] at HP hPc ⊢
    have HQ2 := Lib.hid (HH.out.kept HK2.out)
    have HT2 := Lib.hid ((HK2.out.block _ (heap_lt HT0.out) id).trans HT0.out)
    obtain ⟨_, _, _, _, f4, _⟩ := hist_facts HQ2.out.box
    have cA2 := HCA.out AP N cP w2 HP.out HQ2.out.tabs
    go_upto_region 5 with (go_at_call 38; refine cA2.mono ?_; rintro r w3 ⟨rfl, hk3⟩; have HQ3 := Lib.hid (HQ2.out.kept hk3); have HT3 := Lib.hid ((hk3.block _ (heap_lt HT2.out) id).trans HT2.out); have HK3 := Lib.hid (HK0.out.trans (HK2.out.trans hk3)); have k4 : w3.frozen? ⟨hb, 4, none⟩ = false := frozen_of HQ3.out.box; have e4 := (hist_facts HQ3.out.box).2.2.2.2.1; clear hk3 cA2)
    have HB4 : Hid ((w3.setCell ⟨hb, 4, none⟩ (.string z)).heap[hb]? = some (histO most (.slice (some ad) n c) cur mb z k)) := (heap_set HQ3.out.box _).trans rfl
    have HT4 : Hid ((w3.setCell ⟨hb, 4, none⟩ (.string z)).heap[tb]? = some (treeO (.slice A' n' c') cur')) := (heap_far hne _).trans HT3.out
    have HK4 : Hid (Kept (fun q => q = hb) w (w3.setCell ⟨hb, 4, none⟩ (.string z))) := (HK3.out.any (S := fun q => q = hb)).setCell (p := ⟨hb, 4, none⟩) rfl _
    generalize w3.setCell ⟨hb, 4, none⟩ (.string z) = w4 at *
    clear f4 k4 e4
    obtain ⟨t0, t1, _⟩ := tree_facts HT4.out
    have k1 : w4.frozen? ⟨hb, 1, none⟩ = false := frozen_of HB4.out
    have k2 : w4.frozen? ⟨hb, 2, none⟩ = false := frozen_of HB4.out
    obtain ⟨_, g1, g2, _, _, _⟩ := hist_facts HB4.out
    go_upto_region 6 with fail
    clear t0 t1 k1 k2 g1 g2
    have HB5 : Hid (((w4.setCell ⟨hb, 1, none⟩ (.slice A' n' c')).setCell ⟨hb, 2, none⟩ (.int .i64 cur')).heap[hb]? = some (histO most (.slice A' n' c') cur' mb z k)) := (heap_set (heap_set HB4.out _) _).trans rfl
    have HK5 : Hid (Kept (fun q => q = hb) w ((w4.setCell ⟨hb, 1, none⟩ (.slice A' n' c')).setCell ⟨hb, 2, none⟩ (.int .i64 cur'))) := ((HK4.out.setCell (p := ⟨hb, 1, none⟩) rfl _).setCell (p := ⟨hb, 2, none⟩) rfl _)
    generalize (w4.setCell ⟨hb, 1, none⟩ (.slice A' n' c')).setCell ⟨hb, 2, none⟩ (.int .i64 cur') = w5 at *
    obtain ⟨_, _, _, _, _, g5⟩ := hist_facts HB5.out
    have cD := add64_any ⟨hb, 5, none⟩ k (N : Int) w5 g5 (frozen_of HB5.out) (by omega) (by omega) (by omega) (by omega)
    clear g5
    have HB6 : Hid ((w5.setCell ⟨hb, 5, none⟩ (.int .i64 (k + (N : Int)))).heap[hb]? = some (histO most (.slice A' n' c') cur' mb z (k + (N : Int)))) := (heap_set HB5.out _).trans rfl
    have HK6 : Hid (Kept (fun q => q = hb) w (w5.setCell ⟨hb, 5, none⟩ (.int .i64 (k + (N : Int))))) := HK5.out.setCell (p := ⟨hb, 5, none⟩) rfl _
    go_upto_region 7 with (go_at_call 61; refine cD.mono ?_; rintro r w6 ⟨rfl, hw⟩; have hw2 := hw.symm; clear hw; subst hw2; clear cD)
    generalize w5.setCell ⟨hb, 5, none⟩ (.int .i64 (k + (N : Int))) = w6 at *
    obtain ⟨_, _, _, _, g4, _⟩ := hist_facts HB6.out
    go_wp2_with fail
    exact bodyPost_ret (v := .tuple #[.string z, .int .i64 at', .int .i64 0]) (by simp [results, Tryd.results45, go_sem]) rfl ⟨rfl, HB6.out, HK6.out⟩
end
end Go.Proofs.YthbfmdnibijapaaDoor
