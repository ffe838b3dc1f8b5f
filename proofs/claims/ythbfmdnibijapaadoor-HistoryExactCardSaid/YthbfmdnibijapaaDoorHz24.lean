/-
  HISTORY of a tree: Back, Again, Earlier, Later, Jump.
  HISTORY: trees pruned: a leaf goes.
  HISTORY: trees pruned: no leaf but Cur: a single way; the root goes.
  HISTORY: trees pruned, however often.
-/
import Derived.Test.YthbfmdnibijapaaDoorHz23
import Derived.Test.YthbfmdnibijapaaDoorUnW
set_option linter.unusedVariables false
namespace Go.Proofs.YthbfmdnibijapaaDoor
open Go Go.RowKit

theorem wki_blank {y : Nat} {cur pa : Int} {L : List NodeS} : ∀ n : Nat, wki y cur pa (blank L) n = wki y cur pa L n
  | 0 => rfl
  | n + 1 => by
    have ih := wki_blank (y := y) (cur := cur) (pa := pa) (L := L) n
    unfold wki
    rw [ih]
    cases hx : L[n]? with
    | none =>
      have h2 : (blank L)[n]? = none := by unfold blank; rw [List.getElem?_map, hx]; rfl
      rw [h2]
    | some x =>
      rw [blank_get hx]
      rfl
theorem wkr_blank (y : Nat) (L : List NodeS) (cur : Int) (ei : NodeS) :
    ((wkR y L cur ei).er = 0 ∧ ∃ (j : Nat) (f : NodeS), L[j]? = some f ∧ wkR y L cur ei = ⟨L, f.sq, f.tx, (wkR y L cur ei).at_, 0⟩ ∧ wkR y (blank L) cur ⟨ei.sq, ei.pa, ei.at_, ⟨#[]⟩⟩ = ⟨blank L, f.sq, ⟨#[]⟩, (wkR y L cur ei).at_, 0⟩) ∨
    ((wkR y L cur ei).er ≠ 0 ∧ wkR y (blank L) cur ⟨ei.sq, ei.pa, ei.at_, ⟨#[]⟩⟩ = wr0 (wkR y L cur ei).er) := by
  unfold wkR
  rw [blank_len]
  simp only
  rw [wki_blank]
  cases hx : L[(wki y cur ei.pa L L.length).toNat]? with
  | none =>
    have h2 : (blank L)[(wki y cur ei.pa L L.length).toNat]? = none := by unfold blank; rw [List.getElem?_map, hx]; rfl
    rw [h2]
    exact .inr ⟨by show (6 : Int) ≠ 0; decide, rfl⟩
  | some x =>
    rw [blank_get hx]
    simp only
    by_cases h : wki y cur ei.pa L L.length < 0
    · rw [if_pos h, if_pos h]
      exact .inr ⟨by show (6 : Int) ≠ 0; decide, rfl⟩
    · rw [if_neg h, if_neg h]
      exact .inl ⟨rfl, _, x, hx, rfl, rfl⟩
theorem hxtold_form {B most hb : Nat} {L : List NodeS} {cur k : Int} {W w' : World} {D : WR} {r : Ending} (h : HxTold B most hb L cur k W D r w') : ∃ s a e, r = .returned (.tuple #[.string s, .int .i64 a, .int .i64 e]) := by
  rcases h with ⟨_, h, _⟩ | ⟨_, h, _⟩
  · exact ⟨_, _, _, h⟩
  · exact ⟨_, _, _, h⟩
set_option maxRecDepth 100000 in
set_option maxHeartbeats 4000000 in
theorem hx_back {B most hb : Nat} {L : List NodeS} {cur k : Int} {W : World} (h : Hx B most hb L cur k W) (hk : 0 ≤ k ∧ k ≤ 1000000) {i : Nat} {ei : NodeS} (hi : idx L cur = (i : Nat)) (hei : L[i]? = some ei) :
    Calls Tryd.prog 26 #[.pointer (some ⟨hb, 0, none⟩)] W fun r w' => HxTold B most hb L cur k W (wkR 1 L cur ei) r w' := by
  obtain ⟨ad, cp, mb, kv, hq, hcp, _⟩ := h.q
  have hng := hq.ng
  have hl := blank_len L
  have cB := pwalk1_any ad L.length cp (blank L) cur W hng hcp hq.tabs h.mt i _ (by rw [blank_idx]; exact hi) (blank_get hei)
  have HL := Lib.hid (hx_led h hk (wkR 1 L cur ei) _ (wkr_blank 1 L cur ei))
  obtain ⟨_, f1, f2, _⟩ := hist_facts hq.box
  generalize wkR 1 L cur ei = D at *
  generalize wkR 1 (blank L) cur ⟨ei.sq, ei.pa, ei.at_, ⟨#[]⟩⟩ = E at *
  clear h hk hi hei hq hcp hng hl
  go_enter Tryd.func26, Tryd.ntmps26
  go_wp2_with (first
    | (go_at_call 46; refine cB.mono ?_; intro r w1 ht; obtain ⟨v, cu, s, a, er, rfl, hk1, cT⟩ := HL.out r w1 ht; clear ht hk1 cB f1 f2)
    | (go_at_call 45; refine cT.mono ?_; intro r w2 hT; obtain ⟨s1, a1, e1, rfl⟩ := hxtold_form hT; have HT := Lib.hid hT; clear hT cT))
  exact bodyPost_ret (v := .tuple #[.string s1, .int .i64 a1, .int .i64 e1]) (by simp [results, Tryd.results26, go_sem]) rfl HT.out
set_option maxRecDepth 100000 in
set_option maxHeartbeats 4000000 in
theorem hx_again {B most hb : Nat} {L : List NodeS} {cur k : Int} {W : World} (h : Hx B most hb L cur k W) (hk : 0 ≤ k ∧ k ≤ 1000000) {i : Nat} {ei : NodeS} (hi : idx L cur = (i : Nat)) (hei : L[i]? = some ei) :
    Calls Tryd.prog 27 #[.pointer (some ⟨hb, 0, none⟩)] W fun r w' => HxTold B most hb L cur k W (wkR 2 L cur ei) r w' := by
  obtain ⟨ad, cp, mb, kv, hq, hcp, _⟩ := h.q
  have hng := hq.ng
  have hl := blank_len L
  have cB := pwalk2_any ad L.length cp (blank L) cur W hng hcp hq.tabs h.mt i _ (by rw [blank_idx]; exact hi) (blank_get hei)
  have HL := Lib.hid (hx_led h hk (wkR 2 L cur ei) _ (wkr_blank 2 L cur ei))
  obtain ⟨_, f1, f2, _⟩ := hist_facts hq.box
  generalize wkR 2 L cur ei = D at *
  generalize wkR 2 (blank L) cur ⟨ei.sq, ei.pa, ei.at_, ⟨#[]⟩⟩ = E at *
  clear h hk hi hei hq hcp hng hl
  go_enter Tryd.func27, Tryd.ntmps27
  go_wp2_with (first
    | (go_at_call 47; refine cB.mono ?_; intro r w1 ht; obtain ⟨v, cu, s, a, er, rfl, hk1, cT⟩ := HL.out r w1 ht; clear ht hk1 cB f1 f2)
    | (go_at_call 45; refine cT.mono ?_; intro r w2 hT; obtain ⟨s1, a1, e1, rfl⟩ := hxtold_form hT; have HT := Lib.hid hT; clear hT cT))
  exact bodyPost_ret (v := .tuple #[.string s1, .int .i64 a1, .int .i64 e1]) (by simp [results, Tryd.results27, go_sem]) rfl HT.out
set_option maxRecDepth 100000 in
set_option maxHeartbeats 4000000 in
theorem hx_earlier {B most hb : Nat} {L : List NodeS} {cur k : Int} {W : World} (h : Hx B most hb L cur k W) (hk : 0 ≤ k ∧ k ≤ 1000000) {i : Nat} {ei : NodeS} (hi : idx L cur = (i : Nat)) (hei : L[i]? = some ei) :
    Calls Tryd.prog 31 #[.pointer (some ⟨hb, 0, none⟩)] W fun r w' => HxTold B most hb L cur k W (wkR 3 L cur ei) r w' := by
  obtain ⟨ad, cp, mb, kv, hq, hcp, _⟩ := h.q
  have hng := hq.ng
  have hl := blank_len L
  have cB := pwalk3_any ad L.length cp (blank L) cur W hng hcp hq.tabs h.mt i _ (by rw [blank_idx]; exact hi) (blank_get hei)
  have HL := Lib.hid (hx_led h hk (wkR 3 L cur ei) _ (wkr_blank 3 L cur ei))
  obtain ⟨_, f1, f2, _⟩ := hist_facts hq.box
  generalize wkR 3 L cur ei = D at *
  generalize wkR 3 (blank L) cur ⟨ei.sq, ei.pa, ei.at_, ⟨#[]⟩⟩ = E at *
  clear h hk hi hei hq hcp hng hl
  go_enter Tryd.func31, Tryd.ntmps31
  go_wp2_with (first
    | (go_at_call 50; refine cB.mono ?_; intro r w1 ht; obtain ⟨v, cu, s, a, er, rfl, hk1, cT⟩ := HL.out r w1 ht; clear ht hk1 cB f1 f2)
    | (go_at_call 45; refine cT.mono ?_; intro r w2 hT; obtain ⟨s1, a1, e1, rfl⟩ := hxtold_form hT; have HT := Lib.hid hT; clear hT cT))
  exact bodyPost_ret (v := .tuple #[.string s1, .int .i64 a1, .int .i64 e1]) (by simp [results, Tryd.results31, go_sem]) rfl HT.out
set_option maxRecDepth 100000 in
set_option maxHeartbeats 4000000 in
theorem hx_later {B most hb : Nat} {L : List NodeS} {cur k : Int} {W : World} (h : Hx B most hb L cur k W) (hk : 0 ≤ k ∧ k ≤ 1000000) {i : Nat} {ei : NodeS} (hi : idx L cur = (i : Nat)) (hei : L[i]? = some ei) :
    Calls Tryd.prog 32 #[.pointer (some ⟨hb, 0, none⟩)] W fun r w' => HxTold B most hb L cur k W (wkR 4 L cur ei) r w' := by
  obtain ⟨ad, cp, mb, kv, hq, hcp, _⟩ := h.q
  have hng := hq.ng
  have hl := blank_len L
  have cB := pwalk4_any ad L.length cp (blank L) cur W hng hcp hq.tabs h.mt i _ (by rw [blank_idx]; exact hi) (blank_get hei)
  have HL := Lib.hid (hx_led h hk (wkR 4 L cur ei) _ (wkr_blank 4 L cur ei))
  obtain ⟨_, f1, f2, _⟩ := hist_facts hq.box
  generalize wkR 4 L cur ei = D at *
  generalize wkR 4 (blank L) cur ⟨ei.sq, ei.pa, ei.at_, ⟨#[]⟩⟩ = E at *
  clear h hk hi hei hq hcp hng hl
  go_enter Tryd.func32, Tryd.ntmps32
  go_wp2_with (first
    | (go_at_call 51; refine cB.mono ?_; intro r w1 ht; obtain ⟨v, cu, s, a, er, rfl, hk1, cT⟩ := HL.out r w1 ht; clear ht hk1 cB f1 f2)
    | (go_at_call 45; refine cT.mono ?_; intro r w2 hT; obtain ⟨s1, a1, e1, rfl⟩ := hxtold_form hT; have HT := Lib.hid hT; clear hT cT))
  exact bodyPost_ret (v := .tuple #[.string s1, .int .i64 a1, .int .i64 e1]) (by simp [results, Tryd.results32, go_sem]) rfl HT.out
/-- What a jump tells. -/
def jmR (L : List NodeS) (z : Int) : WR := match L[(idx L z).toNat]? with
  | some e => if idx L z < 0 then wr0 3 else ⟨L, e.sq, e.tx, e.at_, 0⟩
  | none => wr0 3
theorem jmr_yes {L : List NodeS} {z : Int} {i : Nat} {e : NodeS} (hi : idx L z = (i : Nat)) (he : L[i]? = some e) : jmR L z = ⟨L, e.sq, e.tx, e.at_, 0⟩ := by
  unfold jmR
  rw [hi]
  show (match L[i]? with | some e => _ | none => _) = _
  rw [he]
  simp only
  rw [if_neg (by omega)]
theorem jmr_no {L : List NodeS} {z : Int} (h : idx L z < 0) : jmR L z = wr0 3 := by
  unfold jmR
  split
  · rw [if_pos h]
  · rfl
set_option maxRecDepth 100000 in
set_option maxHeartbeats 4000000 in
theorem hx_jump {B most hb : Nat} {L : List NodeS} {cur k : Int} {W : World} (h : Hx B most hb L cur k W) (hk : 0 ≤ k ∧ k ≤ 1000000) (z : Int) :
    Calls Tryd.prog 33 #[.pointer (some ⟨hb, 0, none⟩), .int .i64 z] W fun r w' => HxTold B most hb L cur k W (jmR L z) r w' := by
  obtain ⟨ad, cp, mb, kv, hq, hcp, _⟩ := h.q
  have hng := hq.ng
  obtain ⟨_, f1, f2, _⟩ := hist_facts hq.box
  have hmain : ∃ E, Calls Tryd.prog 52 #[treeV (.slice (some ad) L.length cp) cur, .int .i64 z] W (Told W E) ∧ (((jmR L z).er = 0 ∧ ∃ (j : Nat) (f : NodeS), L[j]? = some f ∧ jmR L z = ⟨L, f.sq, f.tx, (jmR L z).at_, 0⟩ ∧ E = ⟨blank L, f.sq, ⟨#[]⟩, (jmR L z).at_, 0⟩) ∨ ((jmR L z).er ≠ 0 ∧ E = wr0 (jmR L z).er)) := by
    by_cases hz : idx L z < 0
    · refine ⟨wr0 3, jump_none ad L.length cp (blank L) cur W hng hcp hq.tabs h.mt z (by rw [blank_idx]; exact hz), .inr ?_⟩
      rw [jmr_no hz]
      exact ⟨by decide, rfl⟩
    · obtain ⟨i, e, hi, he, hes⟩ := idx_some (show 0 ≤ idx L z by omega)
      refine ⟨⟨blank L, e.sq, ⟨#[]⟩, e.at_, 0⟩, (jump_any ad L.length cp (blank L) cur W hng hcp hq.tabs h.mt z i _ (by rw [blank_idx]; exact hi) (blank_get he)).mono (fun r w' hr => hr), .inl ?_⟩
      rw [jmr_yes hi he]
      exact ⟨rfl, i, e, he, rfl, rfl⟩
  obtain ⟨E, cB, hE⟩ := hmain
  have HL := Lib.hid (hx_led h hk (jmR L z) E hE)
  generalize jmR L z = D at *
  clear h hk hq hcp hng hE
  go_enter Tryd.func33, Tryd.ntmps33
  go_wp2_with (first
    | (go_at_call 52; refine cB.mono ?_; intro r w1 ht; obtain ⟨v, cu, s, a, er, rfl, hk1, cT⟩ := HL.out r w1 ht; clear ht hk1 cB f1 f2)
    | (go_at_call 45; refine cT.mono ?_; intro r w2 hT; obtain ⟨s1, a1, e1, rfl⟩ := hxtold_form hT; have HT := Lib.hid hT; clear hT cT))
  exact bodyPost_ret (v := .tuple #[.string s1, .int .i64 a1, .int .i64 e1]) (by simp [results, Tryd.results33, go_sem]) rfl HT.out
end Go.Proofs.YthbfmdnibijapaaDoor
namespace Go.Proofs.YthbfmdnibijapaaDoor
open Go Go.RowKit

/-- A tree as histories hold it. -/
structure Tr9 (L : List NodeS) : Prop where
  ord : Ord L
  par : ∀ e ∈ L, e.sq ≠ 0 → ∃ p ∈ L, p.sq = e.pa
  root : ∃ r rest, L = r :: rest ∧ r.sq = 0 ∧ r.pa = -1
  may : ∀ e ∈ L, mayB e.tx = true
  at_ : ∀ e ∈ L, (0 ≤ e.at_ ∧ e.at_ ≤ 4000) ∧ e.sq ≤ 1073741824
theorem Tr9.sq0 {L : List NodeS} (h : Tr9 L) {i : Nat} {e : NodeS} (he : L[i]? = some e) : (i = 0 → e.sq = 0 ∧ e.pa = -1) ∧ (0 < i → 0 < e.sq) := by
  obtain ⟨r, rest, rfl, h0, h1⟩ := h.root
  refine ⟨fun hi => ?_, fun hi => ?_⟩
  · subst hi
    injection he with he
    subst he
    exact ⟨h0, h1⟩
  · have := h.ord.srt 0 i r e rfl he hi
    omega
theorem Tr9.tr8 {L : List NodeS} (h : Tr9 L) (hle : L.length ≤ 64) : Tr8 L := by
  refine ⟨h.ord, fun i e he hi => ?_, h.may, hle⟩
  obtain ⟨p, hp, hq⟩ := h.par e (List.mem_of_getElem? he) (by have := (h.sq0 he).2 hi; omega)
  obtain ⟨j, hj⟩ := List.getElem?_of_mem hp
  exact ⟨j, p, hj, hq⟩
theorem Tr9.mayT {L : List NodeS} (h : Tr9 L) (hle : L.length ≤ 64) {cur : Int} (hc : 0 ≤ idx L cur) : MayT (blank L) cur := by
  refine ⟨?_, by rw [blank_len]; exact hle, ok_of_ref (fun i e he => ?_), by rw [blank_idx]; exact hc⟩
  · obtain ⟨r, rest, rfl, _⟩ := h.root
    simp [blank]
  · obtain ⟨x, hx, rfl⟩ := blank_of he
    have hm := List.mem_of_getElem? hx
    refine ⟨⟨(h.sq0 hx).1, ⟨h.ord.ge x hm, (h.at_ x hm).2⟩, (h.at_ x hm).1, (show mayB ⟨#[]⟩ = true by decide)⟩, fun hi => ⟨fun p hp => ?_, h.ord.pa x hm, ?_⟩⟩
    · obtain ⟨y, hy, rfl⟩ := blank_of hp
      exact h.ord.srt _ _ y x hy hx (by omega)
    · rw [blank_idx]
      obtain ⟨p, hp, hq⟩ := h.par x hm (by have := (h.sq0 hx).2 hi; omega)
      obtain ⟨j, hj⟩ := List.getElem?_of_mem hp
      exact idx_ge hj hq
/-- A leaf goes. -/
theorem Tr9.leaf {L : List NodeS} (h : Tr9 L) {i : Nat} {e0 : NodeS} (hi : 1 ≤ i) (he : L[i]? = some e0) (hl : ∀ x ∈ L.drop (i + 1), x.pa ≠ e0.sq) : Tr9 (L.eraseIdx i) := by
  have hsub : ∀ x ∈ L.eraseIdx i, x ∈ L := fun x hx => (List.eraseIdx_sublist L i).subset hx
  refine ⟨h.ord.sub (List.eraseIdx_sublist ..), fun e hm hs => ?_, ?_, fun e hm => h.may e (hsub e hm), fun e hm => h.at_ e (hsub e hm)⟩
  · obtain ⟨p, hp, hq⟩ := h.par e (hsub e hm) hs
    obtain ⟨j, hj⟩ := List.getElem?_of_mem hp
    refine ⟨p, List.mem_eraseIdx_iff_getElem?.2 ⟨j, fun e1 => ?_, hj⟩, hq⟩
    subst e1
    rw [he] at hj
    injection hj with hj
    subst hj
    obtain ⟨k, hk⟩ := List.getElem?_of_mem (hsub e hm)
    have h1 := h.ord.pa e (hsub e hm)
    have hjk : j < k := by
      rcases Nat.lt_trichotomy k j with h2 | h2 | h2
      · have := h.ord.srt k j e e0 hk he h2
        omega
      · subst h2
        rw [hk] at he
        injection he with he
        subst he
        omega
      · exact h2
    refine hl e (List.mem_of_getElem? (i := k - (j + 1)) ?_) hq.symm
    rw [List.getElem?_drop, show j + 1 + (k - (j + 1)) = k by omega]
    exact hk
  · obtain ⟨r, rest, rfl, h0, h1⟩ := h.root
    obtain ⟨i', rfl⟩ : ∃ i', i = i' + 1 := ⟨i - 1, by omega⟩
    exact ⟨r, rest.eraseIdx i', rfl, h0, h1⟩
/-- Who is in an ordered row is told by the Seq. -/
theorem Ord.inj {L : List NodeS} (h : Ord L) {a b : NodeS} (ha : a ∈ L) (hb : b ∈ L) (hs : a.sq = b.sq) : a = b := by
  obtain ⟨i, hi⟩ := List.getElem?_of_mem ha
  obtain ⟨j, hj⟩ := List.getElem?_of_mem hb
  rcases Nat.lt_trichotomy i j with h1 | h1 | h1
  · have := h.srt i j a b hi hj h1; omega
  · subst h1; rw [hi] at hj; injection hj
  · have := h.srt j i b a hj hi h1; omega
/-- Links as nodes tell them. -/
theorem treeG_iff {L : List NodeS} (h : Tr9 L) (hle : L.length ≤ 64) {z q : Int} {d u : PatS} : treeG L z = some (q, d, u) ↔ ∃ e ∈ L, ∃ p ∈ L, e.sq = z ∧ e.sq ≠ 0 ∧ p.sq = e.pa ∧ q = e.pa ∧ d = bt p.tx e.tx ∧ u = bt e.tx p.tx := by
  have h8 := h.tr8 hle
  constructor
  · intro hz
    obtain ⟨i, e, hi, he, hp⟩ := treeG_goodN h8 z q d u hz
    have h1 : 1 ≤ idx L z := by
      unfold treeG at hz
      split at hz
      · assumption
      · cases hz
    obtain ⟨j, x, hj, hx, hs⟩ := idx_some (show 0 ≤ idx L z by omega)
    have hij : i = j := by omega
    subst hij
    rw [he] at hx
    injection hx with hx
    subst hx
    have hpos := (h.sq0 he).2 (by omega)
    obtain ⟨p, hpm, hpq⟩ := h.par e (List.mem_of_getElem? he) (by omega)
    obtain ⟨jp, hjp⟩ := List.getElem?_of_mem hpm
    have hg := treeG_at h8 he (by omega) hjp hpq
    rw [hs, hz] at hg
    simp only [Option.some.injEq, Prod.mk.injEq] at hg
    exact ⟨e, List.mem_of_getElem? he, p, hpm, hs, by omega, hpq, by rw [hg.1, hpq], hg.2.1, hg.2.2⟩
  · rintro ⟨e, he, p, hp, rfl, hs, hq, rfl, rfl, rfl⟩
    obtain ⟨i, hi⟩ := List.getElem?_of_mem he
    obtain ⟨j, hj⟩ := List.getElem?_of_mem hp
    have hi0 : 0 < i := by
      rcases Nat.eq_zero_or_pos i with h0 | h0
      · exact absurd ((h.sq0 hi).1 h0).1 hs
      · exact h0
    rw [treeG_at h8 hi hi0 hj hq, hq]
theorem treeG_leaf {L : List NodeS} (h : Tr9 L) (hle : L.length ≤ 64) {i : Nat} {e0 : NodeS} (hi : 1 ≤ i) (he : L[i]? = some e0) (hl : ∀ x ∈ L.drop (i + 1), x.pa ≠ e0.sq) {z q : Int} {d u : PatS} (hz : treeG (L.eraseIdx i) z = some (q, d, u)) : treeG L z = some (q, d, u) := by
  have hsub : ∀ x ∈ L.eraseIdx i, x ∈ L := fun x hx => (List.eraseIdx_sublist L i).subset hx
  have hl2 : (L.eraseIdx i).length ≤ 64 := Nat.le_trans (List.eraseIdx_sublist L i).length_le hle
  obtain ⟨e, h1, p, h2, h3⟩ := (treeG_iff (h.leaf hi he hl) hl2).1 hz
  exact (treeG_iff h hle).2 ⟨e, hsub e h1, p, hsub p h2, h3⟩
end Go.Proofs.YthbfmdnibijapaaDoor
namespace Go.Proofs.YthbfmdnibijapaaDoor
open Go Go.RowKit

theorem elf_zero {L : List NodeS} {cur : Int} (h : elf L cur = 0) : ∀ i, 1 ≤ i → i < L.length → lfB L cur i = false := by
  unfold elf at h
  intro i h1 h2
  cases hf : (List.range L.length).find? (fun i => decide (1 ≤ i) && lfB L cur i) with
  | none =>
    rw [List.find?_range_eq_none] at hf
    have := hf i h2
    simpa [h1] using this
  | some j =>
    rw [hf] at h
    have hp := List.find?_some hf
    simp at h hp
    omega
theorem elf_pos {L : List NodeS} {cur : Int} (h : elf L cur ≠ 0) : 1 ≤ elf L cur ∧ elf L cur < L.length ∧ lfB L cur (elf L cur) = true := by
  unfold elf at h ⊢
  cases hf : (List.range L.length).find? (fun i => decide (1 ≤ i) && lfB L cur i) with
  | none => rw [hf] at h; exact absurd rfl h
  | some j =>
    have hp := List.find?_some hf
    have hm := List.mem_of_find?_eq_some hf
    simp at hp hm
    exact ⟨hp.1, hm, hp.2⟩
/-- No leaf but the last: each node's child is the next one. -/
theorem single {L : List NodeS} {cur : Int} (h : Tr9 L) (hel : elf L cur = 0) (hcur : ∃ l, L.getLast? = some l ∧ l.sq = cur) :
    ∀ (d i : Nat) (a b : NodeS), i + 1 + d + 1 = L.length → L[i]? = some a → L[i + 1]? = some b → b.pa = a.sq := by
  intro d
  induction d using Nat.strongRecOn with
  | _ d ih =>
    intro i a b hd ha hb
    obtain ⟨l, hl, hlc⟩ := hcur
    have hll : L[L.length - 1]? = some l := by rw [List.getLast?_eq_getElem?] at hl; exact hl
    -- a child of the i-th node
    have hch : ∃ (k : Nat) (x : NodeS), i < k ∧ L[k]? = some x ∧ x.pa = a.sq := by
      by_cases h0 : i = 0
      · subst h0
        have hb0 := (h.sq0 hb).2 (by omega)
        obtain ⟨p, hp, hq⟩ := h.par b (List.mem_of_getElem? hb) (by omega)
        have hpb := h.ord.pa b (List.mem_of_getElem? hb)
        obtain ⟨j, hj⟩ := List.getElem?_of_mem hp
        have hj0 : j = 0 := by
          rcases Nat.lt_trichotomy j 1 with h1 | h1 | h1
          · omega
          · subst h1
            rw [show (0 : Nat) + 1 = 1 from rfl] at hb
            rw [hj] at hb
            injection hb with hb
            subst hb
            omega
          · have := h.ord.srt 1 j b p hb hj h1
            omega
        subst hj0
        rw [ha] at hj
        injection hj with hj
        subst hj
        exact ⟨1, b, by omega, hb, hq.symm⟩
      · have hlf := elf_zero hel i (by omega) (by omega)
        unfold lfB at hlf
        rw [ha] at hlf
        simp only [Bool.and_eq_false_iff] at hlf
        rcases hlf with h1 | h1
        · have hac : a.sq = cur := by simpa using h1
          have := h.ord.srt i (L.length - 1) a l ha hll (by omega)
          omega
        · simp only [Bool.not_eq_false', List.any_eq_true] at h1
          obtain ⟨x, hx, hxp⟩ := h1
          obtain ⟨m, hm⟩ := List.getElem?_of_mem hx
          rw [List.getElem?_drop] at hm
          exact ⟨i + 1 + m, x, by omega, hm, by simpa using hxp⟩
    obtain ⟨k, x, hk, hx, hxp⟩ := hch
    have hkl := get_lt hx
    by_cases hk1 : k = i + 1
    · subst hk1
      rw [hb] at hx
      injection hx with hx
      subst hx
      exact hxp
    · exfalso
      obtain ⟨y, hy⟩ : ∃ y, L[k - 1]? = some y := ⟨_, List.getElem?_eq_getElem (by omega)⟩
      have h2 := ih (L.length - 1 - k) (by omega) (k - 1) y x (by omega) hy (by rw [show k - 1 + 1 = k by omega]; exact hx)
      have h3 := h.ord.srt i (k - 1) a y ha hy (by omega)
      omega
end Go.Proofs.YthbfmdnibijapaaDoor
namespace Go.Proofs.YthbfmdnibijapaaDoor
open Go Go.RowKit

theorem rp_tx (was : Int) (e : NodeS) : (rp was e).tx = e.tx := by unfold rp; split <;> rfl
theorem rp_at (was : Int) (e : NodeS) : (rp was e).at_ = e.at_ := by unfold rp; split <;> rfl
theorem rp_yes {was : Int} {e : NodeS} (h : e.pa = was) : (rp was e).pa = 0 := by unfold rp; rw [if_pos h]
theorem rp_no {was : Int} {e : NodeS} (h : e.pa ≠ was) : (rp was e).pa = e.pa := by unfold rp; rw [if_neg h]
/-- Behind the root's child, each one's parent is it or behind it too. -/
theorem behind {r c : NodeS} {rest : List NodeS} {cur : Int} (h : Tr9 (r :: c :: rest)) (hel : elf (r :: c :: rest) cur = 0) (hcur : ∃ l, (r :: c :: rest).getLast? = some l ∧ l.sq = cur) {x : NodeS} (hx : x ∈ rest) (hp : x.pa ≠ c.sq) : ∃ y ∈ rest, y.sq = x.pa := by
  obtain ⟨m, hm⟩ := List.getElem?_of_mem hx
  have hml := get_lt hm
  obtain ⟨m', rfl⟩ | h0 : (∃ m', m = m' + 1) ∨ m = 0 := by
    cases m with
    | zero => exact .inr rfl
    | succ m => exact .inl ⟨m, rfl⟩
  · obtain ⟨y, hy⟩ : ∃ y, rest[m']? = some y := ⟨_, List.getElem?_eq_getElem (by omega)⟩
    have := single h hel hcur (rest.length - 1 - (m' + 1)) (m' + 2) y x (by simp; omega) hy hm
    exact ⟨y, List.mem_of_getElem? hy, this.symm⟩
  · subst h0
    exact absurd (single h hel hcur (rest.length - 1) 1 c x (by simp; omega) rfl hm) hp
theorem Tr9.drop {r c : NodeS} {rest : List NodeS} {cur : Int} (h : Tr9 (r :: c :: rest)) (hel : elf (r :: c :: rest) cur = 0) (hcur : ∃ l, (r :: c :: rest).getLast? = some l ∧ l.sq = cur) : Tr9 (drp (r :: c :: rest)) := by
  have hc0 := (h.sq0 (i := 1) rfl).2 (by omega)
  have hroot : rp c.sq { c with sq := 0, pa := -1 } = ⟨0, -1, c.at_, c.tx⟩ := by
    unfold rp
    rw [if_neg (show ¬ (-1 : Int) = c.sq by omega)]
  have hmem : ∀ e ∈ drp (r :: c :: rest), e = ⟨0, -1, c.at_, c.tx⟩ ∨ ∃ x ∈ rest, e = rp c.sq x := by
    intro e he
    obtain ⟨x, hx, rfl⟩ := List.mem_map.1 he
    rcases List.mem_cons.1 hx with rfl | hx
    · exact .inl hroot
    · exact .inr ⟨x, hx, rfl⟩
  have hfst : (⟨0, -1, c.at_, c.tx⟩ : NodeS) ∈ drp (r :: c :: rest) := List.mem_map.2 ⟨_, List.mem_cons_self, hroot⟩
  have hrst : ∀ x ∈ rest, rp c.sq x ∈ drp (r :: c :: rest) := fun x hx => List.mem_map.2 ⟨x, List.mem_cons_of_mem _ hx, rfl⟩
  have hin : ∀ x ∈ rest, x ∈ r :: c :: rest := fun x hx => by simp [hx]
  refine ⟨h.ord.drp, fun e he hs => ?_, ⟨⟨0, -1, c.at_, c.tx⟩, rest.map (rp c.sq), ?_, rfl, rfl⟩, fun e he => ?_, fun e he => ?_⟩
  · rcases hmem e he with rfl | ⟨x, hx, rfl⟩
    · exact absurd rfl hs
    · by_cases hp : x.pa = c.sq
      · exact ⟨_, hfst, (rp_yes hp).symm⟩
      · obtain ⟨y, hy, hq⟩ := behind h hel hcur hx hp
        exact ⟨_, hrst y hy, by rw [rp_sq, rp_no hp]; exact hq⟩
  · show ({ c with sq := 0, pa := -1 } :: rest).map (rp c.sq) = _
    rw [List.map_cons, hroot]
  · rcases hmem e he with rfl | ⟨x, hx, rfl⟩
    · exact h.may c (by simp)
    · rw [rp_tx]; exact h.may x (hin x hx)
  · rcases hmem e he with rfl | ⟨x, hx, rfl⟩
    · exact ⟨(h.at_ c (by simp)).1, by show (0 : Int) ≤ _; omega⟩
    · rw [rp_at, rp_sq]; exact h.at_ x (hin x hx)
theorem treeG_drop {r c : NodeS} {rest : List NodeS} {cur : Int} (h : Tr9 (r :: c :: rest)) (hle : (r :: c :: rest).length ≤ 64) (hel : elf (r :: c :: rest) cur = 0) (hcur : ∃ l, (r :: c :: rest).getLast? = some l ∧ l.sq = cur) {z q : Int} {d u : PatS} (hz : treeG (drp (r :: c :: rest)) z = some (q, d, u)) : ∃ q', treeG (r :: c :: rest) z = some (q', d, u) := by
  have h9 := h.drop hel hcur
  have hc0 := (h.sq0 (i := 1) rfl).2 (by omega)
  have hroot : rp c.sq { c with sq := 0, pa := -1 } = ⟨0, -1, c.at_, c.tx⟩ := by
    unfold rp
    rw [if_neg (show ¬ (-1 : Int) = c.sq by omega)]
  have hfst : (⟨0, -1, c.at_, c.tx⟩ : NodeS) ∈ drp (r :: c :: rest) := List.mem_map.2 ⟨_, List.mem_cons_self, hroot⟩
  have hrst : ∀ x ∈ rest, rp c.sq x ∈ drp (r :: c :: rest) := fun x hx => List.mem_map.2 ⟨x, List.mem_cons_of_mem _ hx, rfl⟩
  have hin : ∀ x ∈ rest, x ∈ r :: c :: rest := fun x hx => by simp [hx]
  have hl2 : (drp (r :: c :: rest)).length ≤ 64 := by
    show ((({ c with sq := 0, pa := -1 } : NodeS) :: rest).map (rp c.sq)).length ≤ 64
    simp at hle ⊢
    omega
  obtain ⟨e, he, p, hp, hez, hes, hpq, _, hd, hu⟩ := (treeG_iff h9 hl2).1 hz
  obtain ⟨x, hx, rfl⟩ := List.mem_map.1 he
  rcases List.mem_cons.1 hx with rfl | hx
  · rw [hroot] at hes
    exact absurd rfl hes
  · rw [rp_sq] at hez hes
    rw [rp_tx] at hd hu
    by_cases hxp : x.pa = c.sq
    · rw [rp_yes hxp] at hpq
      have hpe := h9.ord.inj hp hfst hpq
      subst hpe
      exact ⟨x.pa, (treeG_iff h hle).2 ⟨x, hin x hx, c, by simp, hez, hes, hxp.symm, rfl, hd, hu⟩⟩
    · rw [rp_no hxp] at hpq
      obtain ⟨y, hy, hq⟩ := behind h hel hcur hx hxp
      have hpe := h9.ord.inj hp (hrst y hy) (by rw [rp_sq, hq]; exact hpq)
      subst hpe
      rw [rp_tx] at hd hu
      exact ⟨x.pa, (treeG_iff h hle).2 ⟨x, hin x hx, y, hin y hy, hez, hes, hq, rfl, hd, hu⟩⟩
/-- Cur is the last node. -/
def AtEnd (L : List NodeS) (cur : Int) : Prop := ∃ l, L.getLast? = some l ∧ l.sq = cur
theorem prn_keeps {L : List NodeS} {cur : Int} (h : Tr9 L) (hle : L.length ≤ 65) (h3 : 3 ≤ L.length) (he : AtEnd L cur) : Tr9 (prn L cur).1 ∧ AtEnd (prn L cur).1 cur ∧ (prn L cur).2 = cur := by
  unfold prn
  by_cases hz : elf L cur = 0
  · rw [if_pos hz]
    match L, h, h3, he, hz with
    | r :: c :: x :: rest, h, _, he, hz =>
      refine ⟨h.drop hz he, ?_, ?_⟩
      · obtain ⟨l, hl, hlc⟩ := he
        refine ⟨rp c.sq l, ?_, by rw [rp_sq]; exact hlc⟩
        show ((({ c with sq := 0, pa := -1 } : NodeS) :: x :: rest).map (rp c.sq)).getLast? = _
        rw [List.getLast?_map, List.getLast?_cons_cons]
        rw [List.getLast?_cons_cons, List.getLast?_cons_cons] at hl
        rw [hl]
        rfl
      · obtain ⟨l, hl, hlc⟩ := he
        have hll : (r :: c :: x :: rest)[(r :: c :: x :: rest).length - 1]? = some l := by rw [List.getLast?_eq_getElem?] at hl; exact hl
        have := h.ord.srt 1 _ c l rfl hll (by simp)
        show (if cur = c.sq then 0 else cur) = cur
        rw [if_neg (by omega)]
  · rw [if_neg hz]
    obtain ⟨h1, h2, hlf⟩ := elf_pos hz
    obtain ⟨e0, he0⟩ : ∃ e0, L[elf L cur]? = some e0 := ⟨_, List.getElem?_eq_getElem h2⟩
    unfold lfB at hlf
    rw [he0] at hlf
    simp only [Bool.and_eq_true, Bool.not_eq_true', List.any_eq_false] at hlf
    refine ⟨h.leaf h1 he0 (fun x hx => by have := hlf.2 x hx; simpa using this), ?_, rfl⟩
    obtain ⟨l, hl, hlc⟩ := he
    refine ⟨l, ?_, hlc⟩
    have hll : L[L.length - 1]? = some l := by rw [List.getLast?_eq_getElem?] at hl; exact hl
    have hne : elf L cur ≠ L.length - 1 := by
      intro e
      rw [e, hll] at he0
      injection he0 with he0
      subst he0
      have := hlf.1
      simp [hlc] at this
    rw [List.getLast?_eq_getElem?, List.length_eraseIdx, if_pos h2, List.getElem?_eraseIdx, if_neg (by omega), show L.length - 1 - 1 + 1 = L.length - 1 by omega]
    exact hll
theorem treeG_prn {L : List NodeS} {cur : Int} (h : Tr9 L) (hle : L.length ≤ 64) (h2 : 2 ≤ L.length) (he : AtEnd L cur) {z q : Int} {d u : PatS} (hz : treeG (prn L cur).1 z = some (q, d, u)) : ∃ q', treeG L z = some (q', d, u) := by
  unfold prn at hz
  by_cases h0 : elf L cur = 0
  · rw [if_pos h0] at hz
    match L, h, hle, h2, he, h0, hz with
    | r :: c :: rest, h, hle, _, he, h0, hz => exact treeG_drop h hle h0 he hz
  · rw [if_neg h0] at hz
    obtain ⟨h1, h3, hlf⟩ := elf_pos h0
    obtain ⟨e0, he0⟩ : ∃ e0, L[elf L cur]? = some e0 := ⟨_, List.getElem?_eq_getElem h3⟩
    unfold lfB at hlf
    rw [he0] at hlf
    simp only [Bool.and_eq_true, Bool.not_eq_true', List.any_eq_false] at hlf
    exact ⟨q, treeG_leaf h hle h1 he0 (fun x hx => by have := hlf.2 x hx; simpa using this) hz⟩
end Go.Proofs.YthbfmdnibijapaaDoor
