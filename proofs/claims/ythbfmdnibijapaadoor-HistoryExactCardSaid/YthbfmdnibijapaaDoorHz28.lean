/-
  HISTORY of a tree: what is told of it; an act's outcome, in one form.
  HistoryBack: the law's walk.
  THE LAW's walk; a told tree spoiled.
-/
import Derived.Test.YthbfmdnibijapaaDoorHz27
import Derived.Test.YthbfmdnibijapaaDoorHz19
import Derived.Test.YthbfmdnibijapaaDoorHz23
set_option linter.unusedVariables false
namespace Go.Proofs.YthbfmdnibijapaaDoor
open Go Go.RowKit

theorem Hx.tabs {B most hb : Nat} {L : List NodeS} {cur k : Int} {W : World} (h : Hx B most hb L cur k W) : Tabs W := by
  obtain ⟨_, _, _, _, hq, _⟩ := h.q
  exact hq.tabs
theorem hxtree_any {B most hb : Nat} {L : List NodeS} {cur k : Int} {W : World} (h : Hx B most hb L cur k W) (h9 : Tr9 L) :
    Calls Tryd.prog 19 #[.pointer (some ⟨hb, 0, none⟩)] W fun r w' => (∃ v, r = .returned (treeV v cur) ∧ On w' W.heap.size v L) ∧ Kept (fun _ => False) W w' := by
  obtain ⟨ad, cp, mb, kv, hq, hcp, _, hkv, hno⟩ := h.q
  have hle := h.tr.le
  have hbl := blank_len L
  have hge := h.mt.ge
  refine htree0 L W hq hcp hle hge h.tr (treeG_good h.tr h.mt hkv) (by have := h.mt.cu; rw [blank_idx] at this; exact this) rfl (fun x hx => ((h9.sq0 hx).1 rfl).1) ?_ ?_
  · obtain ⟨es, cl, h1, _⟩ := hq.mp
    exact heap_lt h1
  · obtain ⟨x, hx⟩ : ∃ x, (blank L)[0]? = some x := ⟨_, List.getElem?_eq_getElem (by omega)⟩
    have h1 := (hq.ng.nd hx).2.c0
    exact World.block_lt_of_cell? W _ h1
theorem hxhere_any {B most hb : Nat} {L : List NodeS} {cur k : Int} {W : World} (h : Hx B most hb L cur k W) :
    Calls Tryd.prog 20 #[.pointer (some ⟨hb, 0, none⟩)] W fun e w' => e = .returned (.string (txAt L cur)) ∧ w' = W := by
  obtain ⟨ad, cp, mb, kv, hq, _⟩ := h.q
  exact hhere_any hb mb _ cur k _ _ W hq.box
theorem hxpat_any {B most hb : Nat} {L : List NodeS} {cur k : Int} {W : World} (h : Hx B most hb L cur k W) (hk : 0 ≤ k ∧ k ≤ 1000000) :
    Calls Tryd.prog 22 #[.pointer (some ⟨hb, 0, none⟩)] W fun e w' => e = .returned (.int .i64 k) ∧ w' = W := by
  obtain ⟨ad, cp, mb, kv, hq, _⟩ := h.q
  exact hpatches_any hb mb _ cur k _ _ W hq.box (by omega)
/-- What a history holds while the law works. -/
structure Hst (B most hb : Nat) (L : List NodeS) (cur k : Int) (i : Nat) (W : World) : Prop where
  hx : Hx B most hb L cur k W
  t9 : Tr9 L
  le : L.length ≤ most
  la : ∃ l, L.getLast? = some l ∧ l.sq ≤ i
  kb : 0 ≤ k ∧ k ≤ 126 * (i : Int)
theorem Hst.kept {B most hb : Nat} {L : List NodeS} {cur k : Int} {i : Nat} {W W' : World} (h : Hst B most hb L cur k i W) (hk : Kept (fun _ => False) W W') : Hst B most hb L cur k i W' := ⟨h.hx.kept hk, h.t9, h.le, h.la, h.kb⟩
theorem Hst.next {B most hb : Nat} {L : List NodeS} {cur k : Int} {i : Nat} {W : World} (h : Hst B most hb L cur k i W) : Hst B most hb L cur k (i + 1) W := by
  obtain ⟨l, h1, h2⟩ := h.la
  exact ⟨h.hx, h.t9, h.le, ⟨l, h1, by omega⟩, by have := h.kb; omega⟩
/-- What turns by a history's call: its own block, and maps. -/
def KM (B hb : Nat) (W w' : World) : Prop := Kept (fun q => q = hb ∨ (B ≤ q ∧ MapAt W q)) W w'
theorem KM.pre {B hb : Nat} {W W1 w' : World} (hk : Kept (fun _ => False) W W1) (h : KM B hb W1 w') : KM B hb W w' := by
  refine ⟨h.os.trans hk.os, h.tape.trans hk.tape, h.output.trans hk.output, Nat.le_trans hk.size h.size, fun q hq hn => ?_⟩
  have e := hk.block q hq id
  refine (h.block q (Nat.lt_of_lt_of_le hq hk.size) (fun e2 => hn ?_)).trans e
  rcases e2 with e2 | ⟨eb, es, cl, e2⟩
  · exact .inl e2
  · exact .inr ⟨eb, es, cl, e ▸ e2⟩
theorem KM.of {B hb : Nat} {W w' : World} (h : Kept (fun _ => False) W w') : KM B hb W w' := h.any
theorem KM.of1 {B hb : Nat} {W w' : World} (h : Kept (fun q => q = hb) W w') : KM B hb W w' := h.mono (fun _ _ e => .inl e)
/-- An outcome: what is told, and what the history is then. -/
structure Oc where
  tx : ByteArray
  at_ : Int
  er : Int
  L : List NodeS
  cur : Int
  n : Nat
/-- Led to a node, or not: by what undo's tree tells. -/
def OcW (L : List NodeS) (cur : Int) (D : WR) (O : Oc) : Prop :=
  (D.er = 0 ∧ D = ⟨L, O.cur, O.tx, O.at_, 0⟩ ∧ O.er = 0 ∧ O.L = L ∧ O.n ≤ 126 ∧ ∃ U Dn, Way (treeG L) cur O.cur U Dn ∧ O.n = U.length + Dn.length) ∨
  (D.er ≠ 0 ∧ D = wr0 D.er ∧ O = ⟨⟨#[]⟩, 0, D.er, L, cur, 0⟩)
theorem ocw_ex {B most hb : Nat} {L : List NodeS} {cur k : Int} {i : Nat} {W : World} (h : Hst B most hb L cur k i W) (D : WR) (hD : (D.er = 0 ∧ ∃ (j : Nat) (f : NodeS), L[j]? = some f ∧ D = ⟨L, f.sq, f.tx, D.at_, 0⟩) ∨ (D.er ≠ 0 ∧ D = wr0 D.er)) : ∃ O, OcW L cur D O := by
  rcases hD with ⟨h0, j, f, hf, hD⟩ | ⟨h0, hD⟩
  · have hcu : 0 ≤ idx L cur := by have := h.hx.mt.cu; rw [blank_idx] at this; exact this
    obtain ⟨ii, e, hi, he, hes⟩ := idx_some hcu
    obtain ⟨U, Dn, Q, hw, _, _, _, _, hle⟩ := way_ex h.hx.tr (ii + j) ii j e f rfl he hf
    have h1 := get_lt he
    have h2 := get_lt hf
    have h3 := h.hx.tr.le
    rw [hes] at hw
    exact ⟨⟨f.tx, D.at_, 0, L, f.sq, U.length + Dn.length⟩, .inl ⟨h0, hD, rfl, rfl, by show U.length + Dn.length ≤ 126; omega, U, Dn, hw, rfl⟩⟩
  · exact ⟨⟨⟨#[]⟩, 0, D.er, L, cur, 0⟩, .inr ⟨h0, hD, rfl⟩⟩
theorem ocw_told {B most hb : Nat} {L : List NodeS} {cur k : Int} {i : Nat} {W : World} (h : Hst B most hb L cur k i W) {D : WR} {O : Oc} (hO : OcW L cur D O) {W1 : World} (hk : Kept (fun _ => False) W W1) {r : Ending} {w' : World} (hT : HxTold B most hb L cur k W1 D r w') :
    ∃ s x e, r = .returned (.tuple #[.string s, .int .i64 x, .int .i64 e]) ∧ ((s = O.tx ∧ x = O.at_ ∧ e = O.er) ∧ Hst B most hb O.L O.cur (k + (O.n : Int)) (i + 1) w' ∧ KM B hb W w') := by
  rcases hO with ⟨h0, hD, h1, h2, h3, U, Dn, hw, hn⟩ | ⟨h0, hD, hO⟩
  · rcases hT with ⟨_, hr, ⟨U', Dn', hw', _, hx⟩, hk'⟩ | ⟨hc, _⟩
    · rw [hD] at hr hw' hx
      simp only at hr hw' hx
      obtain ⟨rfl, rfl⟩ := way_fun hw hw'
      obtain ⟨l, hl1, hl2⟩ := h.la
      refine ⟨_, _, _, hr, ⟨rfl, rfl, h1.symm⟩, ⟨?_, ?_, ?_, ?_, ?_⟩, (KM.of1 hk').pre hk⟩
      · rw [h2, hn]; exact hx
      · rw [h2]; exact h.t9
      · rw [h2]; exact h.le
      · rw [h2]; exact ⟨l, hl1, by omega⟩
      · have := h.kb; omega
    · exact absurd h0 hc
  · rcases hT with ⟨hc, _⟩ | ⟨_, hr, hk'⟩
    · exact absurd hc h0
    · subst hO
      refine ⟨_, _, _, hr, ⟨rfl, rfl, rfl⟩, ?_, (KM.of hk').pre hk⟩
      have h1 := (h.next.kept hk).kept hk'
      simpa using h1
theorem cmt_last {L : List NodeS} {l : NodeS} {t : ByteArray} {at' cur : Int} {most : Nat} (h9 : Tr9 L) (hle : L.length ≤ most) (hm : 2 ≤ most ∧ most ≤ 63) (hl : L.getLast? = some l) (hc : 0 ≤ idx L cur) (ha : 0 ≤ at' ∧ at' ≤ 4000) (ht : mayB t = true) (hq : l.sq < 1073741824) :
    (cmt L cur l.sq t at' most).1.length ≤ most ∧ ∃ l', (cmt L cur l.sq t at' most).1.getLast? = some l' ∧ l'.sq = l.sq + 1 := by
  obtain ⟨ic, ec, hic, hec, hecs⟩ := idx_some hc
  obtain ⟨k1, k2, ⟨l', hl', hls, hlt⟩, ⟨k3, k4⟩, k5⟩ := cmt_keeps h9 hle hm hl ⟨ec, List.mem_of_getElem? hec, hecs⟩ ha ht hq
  exact ⟨by omega, l', hl', hls⟩
/-- What a commit's outcome is. -/
def OcC (most : Nat) (L : List NodeS) (cur : Int) (l : NodeS) (a : NodeS) (O : Oc) : Prop :=
  ((mayB a.tx = true ∧ 0 ≤ a.pa ∧ a.pa ≤ 4000) ∧ O = ⟨⟨#[]⟩, 0, 0, (cmt L cur l.sq a.tx a.pa most).1, (cmt L cur l.sq a.tx a.pa most).2, 0⟩) ∨
  (¬ (mayB a.tx = true ∧ 0 ≤ a.pa ∧ a.pa ≤ 4000) ∧ O = ⟨⟨#[]⟩, 0, 1, L, cur, 0⟩)
theorem occ_ex (most : Nat) (L : List NodeS) (cur : Int) (l a : NodeS) : ∃ O, OcC most L cur l a O := by
  by_cases h : mayB a.tx = true ∧ 0 ≤ a.pa ∧ a.pa ≤ 4000
  · exact ⟨_, .inl ⟨h, rfl⟩⟩
  · exact ⟨_, .inr ⟨h, rfl⟩⟩
theorem occ_told {B most hb : Nat} {L : List NodeS} {cur k : Int} {i : Nat} {W : World} (h : Hst B most hb L cur k i W) (hm : 2 ≤ most ∧ most ≤ 63) (hi : i ≤ 1000) {l a : NodeS} (hl : L.getLast? = some l) {O : Oc} (hO : OcC most L cur l a O) {W1 : World} (hk : Kept (fun _ => False) W W1) {e : Int} {w' : World} (hT : CmTold B most hb L cur k W1 a.tx a.pa l e w') :
    (⟨#[]⟩ = O.tx ∧ 0 = O.at_ ∧ e = O.er) ∧ Hst B most hb O.L O.cur (k + (O.n : Int)) (i + 1) w' ∧ KM B hb W w' := by
  obtain ⟨l2, hl1, hl2⟩ := h.la
  rw [hl] at hl1
  injection hl1 with hl1
  subst hl1
  have hcu : 0 ≤ idx L cur := by have := h.hx.mt.cu; rw [blank_idx] at this; exact this
  rcases hO with ⟨h0, rfl⟩ | ⟨h0, rfl⟩
  · rcases hT with ⟨_, rfl, hx, h9, hk'⟩ | ⟨hc, _⟩
    · obtain ⟨h1, l', h2, h3⟩ := cmt_last h.t9 h.le hm hl hcu h0.2 h0.1 (by omega)
      refine ⟨⟨rfl, rfl, rfl⟩, ⟨?_, h9, h1, ⟨l', h2, by omega⟩, ?_⟩, KM.pre hk hk'⟩
      · simpa using hx
      · have := h.kb
        exact ⟨by show 0 ≤ k + ((0 : Nat) : Int); omega, by show k + ((0 : Nat) : Int) ≤ 126 * ((i + 1 : Nat) : Int); omega⟩
    · exact absurd h0 hc
  · rcases hT with ⟨hc, _⟩ | ⟨_, rfl, hk'⟩
    · exact absurd hc h0
    · refine ⟨⟨rfl, rfl, rfl⟩, ?_, (KM.of hk').pre hk⟩
      have h1 := (h.next.kept hk).kept hk'
      simpa using h1
/-- What an act's outcome is, by what Within tells of it. -/
def OcA (most : Nat) (kd : Nat) (L : List NodeS) (cur : Int) (ei l a : NodeS) (O : Oc) : Prop :=
  (kd ≤ 4 ∧ OcC most L cur l a O) ∨ (∃ y, 1 ≤ y ∧ y ≤ 4 ∧ kd = y + 4 ∧ OcW L cur (wkR y L cur ei) O) ∨ (kd = 9 ∧ OcW L cur (jmR L a.pa) O)
theorem jmr_form {L : List NodeS} {z : Int} : ((jmR L z).er = 0 ∧ ∃ (j : Nat) (f : NodeS), L[j]? = some f ∧ jmR L z = ⟨L, f.sq, f.tx, (jmR L z).at_, 0⟩) ∨ ((jmR L z).er ≠ 0 ∧ jmR L z = wr0 (jmR L z).er) := by
  by_cases hz : idx L z < 0
  · rw [jmr_no hz]
    exact .inr ⟨by decide, rfl⟩
  · obtain ⟨i, e, hi, he, hes⟩ := idx_some (show 0 ≤ idx L z by omega)
    rw [jmr_yes hi he]
    exact .inl ⟨rfl, i, e, he, rfl⟩
theorem wkr_form (y : Nat) (L : List NodeS) (cur : Int) (ei : NodeS) : ((wkR y L cur ei).er = 0 ∧ ∃ (j : Nat) (f : NodeS), L[j]? = some f ∧ wkR y L cur ei = ⟨L, f.sq, f.tx, (wkR y L cur ei).at_, 0⟩) ∨ ((wkR y L cur ei).er ≠ 0 ∧ wkR y L cur ei = wr0 (wkR y L cur ei).er) := by
  unfold wkR
  split
  · rename_i x hx
    split
    · exact .inr ⟨by decide, rfl⟩
    · exact .inl ⟨rfl, _, x, hx, rfl⟩
  · exact .inr ⟨by decide, rfl⟩
theorem doesany {B most hb : Nat} {L : List NodeS} {cur k : Int} {i : Nat} {W : World} (h : Hst B most hb L cur k i W) (hm : 2 ≤ most ∧ most ≤ 63) (hi : i ≤ 1000) (hB : B ≤ W.heap.size) {ic : Nat} {ei l a : NodeS} (hic : idx L cur = (ic : Nat)) (hei : L[ic]? = some ei) (hl : L.getLast? = some l) (hsz : a.tx.size ≤ 140737488351232) (kd : Nat) (hk10 : kd < 10) (hkd : ∀ W : World, Calls Tryd.prog 6 #[.int .i64 a.sq, .int .i64 10] W fun r W' => r = .returned (.int .i64 kd) ∧ W' = W) :
    ∃ O, OcA most kd L cur ei l a O ∧ ∀ W1, Kept (fun _ => False) W W1 → Calls Tryd.prog 11 #[.pointer (some ⟨hb, 0, none⟩), .agg #[.int .i64 a.sq, .int .i64 a.pa, .int .i64 a.at_, .string a.tx]] W1 fun r w' => r = .returned (.tuple #[.string O.tx, .int .i64 O.at_, .int .i64 O.er]) ∧ Hst B most hb O.L O.cur (k + (O.n : Int)) (i + 1) w' ∧ KM B hb W w' := by
  have hkb : 0 ≤ k ∧ k ≤ 1000000 := by have := h.kb; omega
  have fin : ∀ (O : Oc) (W1 : World), Calls Tryd.prog 11 #[.pointer (some ⟨hb, 0, none⟩), .agg #[.int .i64 a.sq, .int .i64 a.pa, .int .i64 a.at_, .string a.tx]] W1 (fun r w' => ∃ s x e, r = .returned (.tuple #[.string s, .int .i64 x, .int .i64 e]) ∧ ((s = O.tx ∧ x = O.at_ ∧ e = O.er) ∧ Hst B most hb O.L O.cur (k + (O.n : Int)) (i + 1) w' ∧ KM B hb W w')) → Calls Tryd.prog 11 #[.pointer (some ⟨hb, 0, none⟩), .agg #[.int .i64 a.sq, .int .i64 a.pa, .int .i64 a.at_, .string a.tx]] W1 fun r w' => r = .returned (.tuple #[.string O.tx, .int .i64 O.at_, .int .i64 O.er]) ∧ Hst B most hb O.L O.cur (k + (O.n : Int)) (i + 1) w' ∧ KM B hb W w' := by
    intro O W1 hc
    refine hc.mono ?_
    rintro r w' ⟨s, x, e, rfl, ⟨rfl, rfl, rfl⟩, h2⟩
    exact ⟨rfl, h2⟩
  by_cases h4 : kd ≤ 4
  · obtain ⟨O, hO⟩ := occ_ex most L cur l a
    refine ⟨O, .inl ⟨h4, hO⟩, fun W1 hk1 => fin O W1 (does_commit hb a W1 _ kd h4 hkd fun W2 hk2 => ?_)⟩
    obtain ⟨l2, hl1, hl2⟩ := h.la
    rw [hl] at hl1
    injection hl1 with hl1
    subst hl1
    have hk := hk1.trans hk2
    refine (hxcommit_any (h.hx.kept hk) h.t9 h.le hm (Nat.le_trans hB hk.size) a.tx a.pa hsz hl (by omega)).mono ?_
    rintro r w' ⟨e, rfl, hT⟩
    exact ⟨e, rfl, occ_told h hm hi hl hO hk hT⟩
  · by_cases h5 : kd = 5
    · subst h5
      obtain ⟨O, hO⟩ := ocw_ex h (wkR 1 L cur ei) (wkr_form 1 L cur ei)
      refine ⟨O, .inr (.inl ⟨1, by omega, by omega, rfl, hO⟩), fun W1 hk1 => fin O W1 (does_back hb a W1 _ hkd fun W2 hk2 => ?_)⟩
      exact (hx_back (h.hx.kept (hk1.trans hk2)) hkb hic hei).mono fun r w' hT => ocw_told h hO (hk1.trans hk2) hT
    · by_cases h6 : kd = 6
      · subst h6
        obtain ⟨O, hO⟩ := ocw_ex h (wkR 2 L cur ei) (wkr_form 2 L cur ei)
        refine ⟨O, .inr (.inl ⟨2, by omega, by omega, rfl, hO⟩), fun W1 hk1 => fin O W1 (does_again hb a W1 _ hkd fun W2 hk2 => ?_)⟩
        exact (hx_again (h.hx.kept (hk1.trans hk2)) hkb hic hei).mono fun r w' hT => ocw_told h hO (hk1.trans hk2) hT
      · by_cases h7 : kd = 7
        · subst h7
          obtain ⟨O, hO⟩ := ocw_ex h (wkR 3 L cur ei) (wkr_form 3 L cur ei)
          refine ⟨O, .inr (.inl ⟨3, by omega, by omega, rfl, hO⟩), fun W1 hk1 => fin O W1 (does_earlier hb a W1 _ hkd fun W2 hk2 => ?_)⟩
          exact (hx_earlier (h.hx.kept (hk1.trans hk2)) hkb hic hei).mono fun r w' hT => ocw_told h hO (hk1.trans hk2) hT
        · by_cases h8 : kd = 8
          · subst h8
            obtain ⟨O, hO⟩ := ocw_ex h (wkR 4 L cur ei) (wkr_form 4 L cur ei)
            refine ⟨O, .inr (.inl ⟨4, by omega, by omega, rfl, hO⟩), fun W1 hk1 => fin O W1 (does_later hb a W1 _ hkd fun W2 hk2 => ?_)⟩
            exact (hx_later (h.hx.kept (hk1.trans hk2)) hkb hic hei).mono fun r w' hT => ocw_told h hO (hk1.trans hk2) hT
          · obtain rfl : kd = 9 := by omega
            obtain ⟨O, hO⟩ := ocw_ex h (jmR L a.pa) jmr_form
            refine ⟨O, .inr (.inr ⟨rfl, hO⟩), fun W1 hk1 => fin O W1 (does_jump hb a W1 _ hkd fun W2 hk2 => ?_)⟩
            exact (hx_jump (h.hx.kept (hk1.trans hk2)) hkb a.pa).mono fun r w' hT => ocw_told h hO (hk1.trans hk2) hT
end Go.Proofs.YthbfmdnibijapaaDoor
namespace Go.Proofs.YthbfmdnibijapaaDoor
open Go Go.RowKit

/-- What holds of memory while the law works. -/
structure Ux (w : World) (pb B : Nat) (p : ScrU) (W : World) : Prop where
  par : PSu W pb p
  kp : Kept (fun _ => False) w W
  lt : pb < B
  le : w.heap.size ≤ B
  sz : B ≤ W.heap.size
theorem Ux.step {w : World} {pb B : Nat} {p : ScrU} {W W' : World} (h : Ux w pb B p W) (hk : Kept (fun q => B ≤ q) W W') : Ux w pb B p W' :=
  ⟨h.par.kept hk (by have := h.lt; omega), h.kp.fresh hk (fun q hq e => by have := h.le; omega), h.lt, h.le, Nat.le_trans h.sz hk.size⟩
theorem Ux.kept {w : World} {pb B : Nat} {p : ScrU} {W W' : World} (h : Ux w pb B p W) (hk : Kept (fun _ => False) W W') : Ux w pb B p W' := h.step hk.any
set_option maxRecDepth 100000 in
set_option maxHeartbeats 4000000 in
theorem hwakes_any (w : World) (hT : Tabs w) : Calls Tryd.prog 24 #[] w fun e w' => e = .returned (.bool true) ∧ Kept (fun _ => False) w w' := by
  have cN := hcnew_any 5 ⟨#[97]⟩ w hT (by omega) (by decide)
  obtain ⟨B, hB⟩ : ∃ B, w.heap.size = B := ⟨_, rfl⟩
  rw [hB] at cN
  have HB := Lib.hid hB
  clear hT hB
  go_enter Tryd.func24, Tryd.ntmps24
  go_upto_region 2 with (go_at_call 7; refine cN.mono ?_; rintro r w1 ⟨⟨hb, rfl, hc⟩, hk1⟩; have HC1 := Lib.hid hc; have HK1 := Lib.hid hk1; clear hc hk1 cN)
  have cC := hccommit_yes HC1.out rfl (by omega) (by decide) (by decide) (by have := HB.out; have := HK1.out.size; omega) ⟨#[98]⟩ 0 (by decide) (by omega)
  go_upto_region 5 with (first
    | (go_at_call 9; refine (unum_any _ _).mono ?_; rintro e w' ⟨rfl, hw⟩; have hw2 := hw.symm; subst hw2)
    | (go_at_call 25; refine cC.mono ?_; rintro r w2 ⟨rfl, hc, hk2⟩; have HC2 := Lib.hid hc; have HK2 := Lib.hid (HK1.out.fresh hk2 (fun q hq e => by have := HB.out; omega)); clear hc hk2 cC))
  have cBk := hcback_any (c := 0) HC2.out (by omega)
  have e0 : tAt ([⟨#[97]⟩] ++ [⟨#[98]⟩]) 0 = ⟨#[97]⟩ := rfl
  rw [e0] at cBk
  have cHe : ∀ {L : List NodeS} {k : Int} {W : World}, Hc B 5 hb L 0 ([⟨#[97]⟩] ++ [⟨#[98]⟩]) k W → Calls Tryd.prog 20 #[.pointer (some ⟨hb, 0, none⟩)] W fun e w' => e = .returned (.string ⟨#[97]⟩) ∧ w' = W := fun h => hchere_any h
  go_wp2_with (first
    | (go_at_call 9; refine (unum_any _ _).mono ?_; rintro e w' ⟨rfl, hw⟩; have hw2 := hw.symm; subst hw2)
    | (go_at_call 26; refine cBk.mono ?_; rintro r w3 ⟨⟨at', rfl⟩, hc, hk3⟩; have HC3 := Lib.hid hc; have HK3 := Lib.hid (HK2.out.fresh hk3 (fun q hq e => by have := HB.out; omega)); clear hc hk3 cBk)
    | (go_at_call 20; refine (cHe HC3.out).mono ?_; rintro e w' ⟨rfl, hw⟩; have hw2 := hw.symm; subst hw2)
    | (go_at_call 22; refine (hcpat_any HC3.out (by omega)).mono ?_; rintro e w' ⟨rfl, hw⟩; have hw2 := hw.symm; subst hw2))
  go_ret
  exact ⟨rfl, HK3.out⟩
end Go.Proofs.YthbfmdnibijapaaDoor
namespace Go.Proofs.YthbfmdnibijapaaDoor
open Go Go.RowKit

/-- A row of nodes' cells of the call's own, whatever they hold. -/
def Gr (W : World) (g cap : Nat) : Prop := ∃ cs, W.heap[g]? = some (.cells cs 46 (0, 0)) ∧ cs.size = cap * 4
theorem Gr.set {W : World} {g cap : Nat} (h : Gr W g cap) (o : Nat) (u : Value) : Gr (W.setCell ⟨g, o, none⟩ u) g cap := by
  obtain ⟨cs, h1, h2⟩ := h
  exact ⟨_, heap_set h1 u, by simp [h2]⟩
theorem Gr.cell {W : World} {g cap : Nat} (h : Gr W g cap) {j : Nat} (hj : j < cap * 4) : ∃ u, W.cell? ⟨g, j, none⟩ = some u := by
  obtain ⟨cs, h1, h2⟩ := h
  exact ⟨_, (cell_of_row _ _ _ _ _ _ h1).trans (Array.getElem?_eq_getElem (by omega))⟩
theorem Gr.free {W : World} {g cap : Nat} (h : Gr W g cap) (j : Nat) : W.frozen? ⟨g, j, none⟩ = false := by
  obtain ⟨cs, h1, h2⟩ := h
  exact frozen_of h1
theorem Gr.kept {S : Nat → Prop} {W W' : World} {g cap : Nat} (h : Gr W g cap) (hk : Kept S W W') (hs : ¬ S g) : Gr W' g cap := by
  obtain ⟨cs, h1, h2⟩ := h
  exact ⟨cs, (hk.block _ (heap_lt h1) hs).trans h1, h2⟩
set_option maxRecDepth 100000 in
set_option maxHeartbeats 4000000 in
theorem spoil_tree (v : Value) (B : Nat) (L : List NodeS) (cu : Int) (w : World) (hO : On w B v L) (hn : L.length ≤ 100000) :
    Calls Tryd.prog 23 #[treeV v cu] w fun r w' => r = .returned (.tuple #[]) ∧ Kept (fun q => v.ownBlock = some q) w w' := by
  by_cases hl : L.length = 0
  · obtain ⟨A, c, rfl, hng, _⟩ := hO.slice
    have hk0 : Kept (fun _ => False) w (w.alloc (treeO (.slice A L.length c) cu)) := (Kept.refl _ w).alloc _
    have hX : (w.alloc (treeO (.slice A L.length c) cu)).heap[w.heap.size]? = some (treeO (.slice A L.length c) cu) := heap_alloc_new w _
    rw [hl] at hX hk0 ⊢
    have HK0 := Lib.hid hk0
    obtain ⟨t0, t1, _⟩ := tree_facts hX
    clear hk0 hX hng hl hO
    go_enter Tryd.func23, Tryd.ntmps23
    go_upto_region 1 with fail
    simp only [treeO] at t0 t1 HK0
    generalize w.alloc _ = w0 at *
    obtain ⟨tb, htb⟩ : ∃ tb, w.heap.size = tb := ⟨_, rfl⟩
    simp only [htb] at t0 t1 ⊢
    clear htb
    go_wp2_with fail
    go_loopw [2] (fun i wr => i = .int .i64 ((0 : Nat) : Int) ∧ wr = w0) (fun _ _ => 0)
    case atStart => exact ⟨rfl, rfl⟩
    case round =>
      obtain ⟨rfl, rfl⟩ := hrel
      go_wp2_with fail
      go_end0
      exact ⟨rfl, HK0.out.any⟩
  · obtain ⟨g, cap, rfl, hBg, hog⟩ := hO.og (by omega)
    obtain ⟨m, hm⟩ : ∃ m, L.length = m := ⟨_, rfl⟩
    rw [hm] at hn hl hog ⊢
    have hk0 : Kept (fun _ => False) w (w.alloc (treeO (.slice (some ⟨g, 0, none⟩) m cap) cu)) := (Kept.refl _ w).alloc _
    have HX : Hid ((w.alloc (treeO (.slice (some ⟨g, 0, none⟩) m cap) cu)).heap[w.heap.size]? = some (treeO (.slice (some ⟨g, 0, none⟩) m cap) cu)) := heap_alloc_new w _
    obtain ⟨cs, h1, h2, h3⟩ := hog.row
    have HGR : Hid (Gr (w.alloc (treeO (.slice (some ⟨g, 0, none⟩) m cap) cu)) g cap) := Gr.kept (S := fun _ => False) ⟨cs, h1, h2⟩ hk0 id
    have HGW : Hid (g < w.heap.size) := hog.lt
    have HGB : Hid (B ≤ g) := hBg
    have hcap : m ≤ cap := hog.le
    have HK0 := Lib.hid hk0
    obtain ⟨t0, t1, _⟩ := tree_facts HX.out
    clear hk0 h1 h2 h3 hog hBg hO hm
    go_enter Tryd.func23, Tryd.ntmps23
    go_upto_region 1 with fail
    simp only [treeO] at t0 t1 HK0 HX HGR
    generalize w.alloc _ = w0 at *
    obtain ⟨tb, htb⟩ : ∃ tb, w.heap.size = tb := ⟨_, rfl⟩
    have HTB := Lib.hid htb
    simp only [htb] at t0 t1 HX ⊢
    clear htb
    go_wp2_with fail
    clear t0 t1
    go_loopw [2] (fun i wr => ∃ k : Nat, k ≤ m ∧ i = .int .i64 k ∧ wr.heap[tb]? = some (treeO (.slice (some ⟨g, 0, none⟩) m cap) cu) ∧ Gr wr g cap ∧ Kept (fun q => q = g) w0 wr) (fun i _ => m - (intOf i).toNat)
    case atStart => exact ⟨0, Nat.zero_le _, rfl, HX.out, HGR.out, Kept.refl _ _⟩
    case round =>
      obtain ⟨k, hk, rfl, hx, hg, hkept⟩ := hrel
      have HXr := Lib.hid hx
      have HG := Lib.hid hg
      have HK := Lib.hid hkept
      obtain ⟨t0, t1, _⟩ := tree_facts hx
      clear hx hg hkept HGR HX
      by_cases hlt : k < m
      · have b1 : decide (k < m) = true := decide_eq_true hlt
        have b2 : decide ((k : Int) < (m : Int)) = true := decide_eq_true (by omega)
        have u1 : (0 : Int) ≤ (k : Int) := by omega
        have u2 : (k : Int) < (m : Int) := by omega
        have eA : (⟨g, 0, none⟩ : Addr).add (k * 4) = ⟨g, k * 4, none⟩ := by rw [addr_add, Nat.zero_add]
        obtain ⟨v0, c0⟩ := HG.out.cell (show k * 4 < cap * 4 by omega)
        obtain ⟨v1, c1⟩ := HG.out.cell (show k * 4 + 1 < cap * 4 by omega)
        obtain ⟨v2, c2⟩ := HG.out.cell (show k * 4 + 2 < cap * 4 by omega)
        obtain ⟨v3, c3⟩ := HG.out.cell (show k * 4 + 3 < cap * 4 by omega)
        have f0 := HG.out.free (k * 4)
        have f1 := HG.out.free (k * 4 + 1)
        have f2 := HG.out.free (k * 4 + 2)
        have f3 := HG.out.free (k * 4 + 3)
        have HGN : Hid (∀ a b c d, Gr ((((wr.setCell ⟨g, k * 4, none⟩ a).setCell ⟨g, k * 4 + 1, none⟩ b).setCell ⟨g, k * 4 + 2, none⟩ c).setCell ⟨g, k * 4 + 3, none⟩ d) g cap) := fun a b c d => (((HG.out.set _ _).set _ _).set _ _).set _ _
        have HKN : Hid (∀ a b c d, Kept (fun q => q = g) wr ((((wr.setCell ⟨g, k * 4, none⟩ a).setCell ⟨g, k * 4 + 1, none⟩ b).setCell ⟨g, k * 4 + 2, none⟩ c).setCell ⟨g, k * 4 + 3, none⟩ d)) := fun a b c d => ((((Kept.refl (fun q => q = g) wr).setCell (p := ⟨g, k * 4, none⟩) rfl _).setCell (p := ⟨g, k * 4 + 1, none⟩) rfl _).setCell (p := ⟨g, k * 4 + 2, none⟩) rfl _).setCell (p := ⟨g, k * 4 + 3, none⟩) rfl _
        go_wp2_with fail
        go_roundw
        case rel => exact ⟨k + 1, by omega, by go_num, ((HKN.out _ _ _ _).block tb (heap_lt HXr.out) (by have := HGW.out; have := HTB.out; show ¬ tb = g; omega)).trans HXr.out, HGN.out _ _ _ _, HK.out.trans (HKN.out _ _ _ _)⟩
        case measure => simp [intOf]; omega
      · obtain rfl : k = m := by omega
        have b1 : decide (k < k) = false := decide_eq_false (by omega)
        have b2 : decide ((k : Int) < (k : Int)) = false := decide_eq_false (by omega)
        go_wp2_with fail
        go_end0
        refine ⟨rfl, HK0.out.any.trans (HK.out.mono fun q _ h => ?_)⟩
        subst h
        rfl
end Go.Proofs.YthbfmdnibijapaaDoor
