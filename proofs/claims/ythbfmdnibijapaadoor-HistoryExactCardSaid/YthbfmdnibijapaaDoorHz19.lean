/-
  HISTORY: a row of texts: begun, committed to.
  HISTORY: a tree's texts blanked; a history of a tree; texts laid back.
  THE REFERENCE's leaf.
-/
import Derived.Test.YthbfmdnibijapaaDoorHz18
import Derived.Carry
import Derived.Test.YthbfmdnibijapaaDoorHz15
import Derived.Test.YthbfmdnibijapaaDoorHz10
set_option linter.unusedVariables false
namespace Go.Proofs.YthbfmdnibijapaaDoor
open Go Go.RowKit

theorem lookup_snoc {l : List (Int × Value)} {z y : Int} {v : Value} : (l ++ [(y, v)]).lookup z = (l.lookup z).or (if z = y then some v else none) := by
  rw [List.lookup_append]
  congr 1
  rw [List.lookup_cons]
  by_cases h : z = y
  · rw [if_pos h, show (z == y) = true by simp [h]]
  · rw [if_neg h, show (z == y) = false by rw [beq_eq_false_iff_ne]; exact h]
    rfl
theorem hccommit_yes {B most hb : Nat} {L : List NodeS} {c : Nat} {S : List ByteArray} {k : Int} {W : World} (h : Hc B most hb L c S k W) (hce : c + 1 = L.length) (hm : 2 ≤ most ∧ most ≤ 64) (hl : L.length + 1 ≤ most) (hl6 : L.length ≤ 60) (hB : B ≤ W.heap.size) (t : ByteArray) (at' : Int) (ht : mayB t = true) (ha : 0 ≤ at' ∧ at' ≤ 4000) :
    Calls Tryd.prog 25 #[.pointer (some ⟨hb, 0, none⟩), .string t, .int .i64 at'] W fun r w' => r = .returned (.int .i64 0) ∧ Hc B most hb (L ++ [⟨(L.length : Int), (c : Int), at', ⟨#[]⟩⟩]) (c + 1) (S ++ [t]) k w' ∧ Kept (fun q => B ≤ q) W w' := by
  obtain ⟨ad, cp, mb, kv, hq, hcp, hmb, hkv, hno⟩ := h.q
  have hI := h.inv
  obtain ⟨l, hla, hlq⟩ := hI.last
  have hI2 := hI.snocA (s := ⟨#[]⟩) ha (by decide) hl6
  have hrep : List.replicate L.length (⟨#[]⟩ : ByteArray) ++ [⟨#[]⟩] = List.replicate (L ++ [(⟨(L.length : Int), (c : Int), at', ⟨#[]⟩⟩ : NodeS)]).length ⟨#[]⟩ := by
    rw [List.length_append, List.length_singleton, List.replicate_succ']
  rw [hrep] at hI2
  have hcmt : cmt L c l.sq ⟨#[]⟩ at' most = (L ++ [⟨(L.length : Int), (c : Int), at', ⟨#[]⟩⟩], (L.length : Int)) := by rw [cmt_few hl, hlq]
  have hsl := h.sl
  obtain ⟨L', hL'⟩ : ∃ L', L ++ [(⟨(L.length : Int), (c : Int), at', ⟨#[]⟩⟩ : NodeS)] = L' := ⟨_, rfl⟩
  have hlen : L'.length = L.length + 1 := by rw [← hL']; simp
  have hkey : ∀ (i : Nat) (e : NodeS), L'[i + 1]? = some e → e.sq = ((i + 1 : Nat) : Int) ∧ i + 1 < L'.length := by
    intro i e he
    rw [← hL'] at he
    refine ⟨hI2.sq _ _ he, ?_⟩
    rcases Nat.lt_or_ge (i + 1) L'.length with h' | h'
    · exact h'
    · rw [hL', List.getElem?_eq_none h'] at he; cases he
  have hlk : ∀ i : Nat, i + 1 < L'.length → (kv ++ [((L.length : Int), lnkV (bt (tAt S c) t) (bt t (tAt S c)))]).lookup ((i + 1 : Nat) : Int) = some (lnkS (S ++ [t]) i) := by
    intro i hi
    rw [lookup_snoc]
    by_cases h1 : i + 1 < L.length
    · rw [hkv i h1]
      show some _ = some _
      unfold lnkS
      rw [tAt_app (by omega), tAt_app (by omega)]
    · have e1 : i + 1 = L.length := by omega
      have e2 : i = c := by omega
      rw [e1, hno _ (Nat.le_refl _), if_pos rfl]
      show some _ = some _
      unfold lnkS
      rw [e2, tAt_app (by omega), show c + 1 = S.length by omega, tAt_end]
  have hwf : ∀ i : Nat, i ≤ 1000 → (Lit.int .i64 ((i : Nat) : Int)).wf = true := fun i hi => WalkArith.wf_i64 (by omega)
  have cC := hcommit_any most t at' l (L', (L.length : Int)) W hq hcp hI.may (tAt_may h.may _) ht ha hm hla (by omega) (by rw [hcmt, hL']) (by rw [hL'] at hI2; exact ok_srt hI2.may.ok) (by simp only; omega) (hno _ (Nat.le_refl _)) (hwf _ (by omega)) (by
    intro e he
    simp only at he
    obtain ⟨i, hi⟩ := List.getElem?_of_mem he
    rw [List.getElem?_drop, Nat.add_comm 1 i] at hi
    obtain ⟨h1, h2⟩ := hkey i e hi
    rw [h1]
    exact ⟨⟨_, hlk i h2⟩, hwf _ (by omega)⟩)
  refine cC.mono ?_
  rintro r w' ⟨rfl, ⟨g, c', mb', hg, hmb', hc', hq'⟩, hk'⟩
  simp only at hc' hq'
  refine ⟨rfl, ⟨⟨⟨g, 0, none⟩, c', mb', keepL (kv ++ [((L.length : Int), lnkV (bt (tAt S c) t) (bt t (tAt S c)))]) (L'.drop 1), ?_, ?_, by omega, ?_, ?_⟩, ?_, ?_, ?_, ?_, h.lo⟩, hk'.mono (fun q _ e => by have := h.lo; omega)⟩
  · rw [hL', show ((c + 1 : Nat) : Int) = (L.length : Int) by omega, show c + 1 = S.length by omega, tAt_end]
    exact hq'
  · rw [hL']; exact hc'
  · intro i hi
    rw [hL'] at hi
    obtain ⟨e, he⟩ : ∃ e, L'[i + 1]? = some e := ⟨_, List.getElem?_eq_getElem hi⟩
    have h1 := (hkey i e he).1
    rw [← h1]
    refine keepL_has (List.mem_of_getElem? (i := i) (by rw [List.getElem?_drop, Nat.add_comm 1 i]; exact he)) ?_
    rw [h1]
    exact hlk i hi
  · intro i hi
    rw [hL'] at hi
    refine lookup_none (fun p hp => ?_)
    unfold keepL at hp
    obtain ⟨x, hx, rfl⟩ := List.mem_map.1 hp
    obtain ⟨j, hj⟩ := List.getElem?_of_mem hx
    rw [List.getElem?_drop, Nat.add_comm 1 j] at hj
    obtain ⟨h1, h2⟩ := hkey j x hj
    show x.sq ≠ _
    omega
  · have := hI2.cur (d := c + 1) (by rw [hL']; omega)
    exact this
  · intro i e he
    by_cases hi : i < L.length
    · rw [List.getElem?_append_left hi] at he
      exact h.par i e he
    · have hi2 : i = L.length := by
        rcases Nat.lt_or_ge i (L ++ [(⟨(L.length : Int), (c : Int), at', ⟨#[]⟩⟩ : NodeS)]).length with h' | h'
        · simp at h'; omega
        · rw [List.getElem?_eq_none h'] at he; cases he
      subst hi2
      rw [List.getElem?_append_right (Nat.le_refl _), Nat.sub_self] at he
      injection he with he
      subst he
      show (c : Int) = _
      omega
  · simp [hsl]
  · intro s hs
    rcases List.mem_append.1 hs with hs | hs
    · exact h.may s hs
    · rw [List.mem_singleton.1 hs]; exact ht
theorem hccommit_no {B most hb : Nat} {L : List NodeS} {c : Nat} {S : List ByteArray} {k : Int} {W : World} (h : Hc B most hb L c S k W) (t : ByteArray) (at' : Int) (ht : mayB t = false) (hsz : t.size ≤ 140737488351232) :
    Calls Tryd.prog 25 #[.pointer (some ⟨hb, 0, none⟩), .string t, .int .i64 at'] W fun r w' => r = .returned (.int .i64 1) ∧ Kept (fun _ => False) W w' := by
  obtain ⟨ad, cp, mb, kv, hq, _⟩ := h.q
  have := mayB_size (tAt_may h.may c)
  exact hcommit_bad most t at' W hq (by omega) hsz ht
set_option maxRecDepth 100000 in
set_option maxHeartbeats 4000000 in
theorem hcnew_any (most : Nat) (s : ByteArray) (w : World) (hT : Tabs w) (hm : 2 ≤ most ∧ most ≤ 64) (hs : mayB s = true) :
    Calls Tryd.prog 7 #[.int .i64 most, .string s] w fun r w' => (∃ hb, r = .returned (.tuple #[.pointer (some ⟨hb, 0, none⟩), .int .i64 0]) ∧ Hc w.heap.size most hb [⟨0, -1, 0, ⟨#[]⟩⟩] 0 [s] 0 w') ∧ Kept (fun _ => False) w w' := by
  have cN := new_any s w hT hs
  have q1 : decide ((most : Int) < 2) = false := decide_eq_false (by omega)
  have q2 : decide ((64 : Int) < (most : Int)) = false := decide_eq_false (by omega)
  have q3 : decide (most < 2) = false := decide_eq_false (by omega)
  have q4 : decide (64 < most) = false := decide_eq_false (by omega)
  have HT := Lib.hid hT
  have HS := Lib.hid hs
  clear hT hs
  go_enter Tryd.func7, Tryd.ntmps7
  go_upto_region 4 with (go_at_call 29; refine cN.mono ?_; rintro r w1 ⟨⟨v, rfl, hO⟩, hk1⟩; obtain ⟨g, cap, rfl, hBg, hog⟩ := hO.og' (n := 1) rfl (by decide); have HK1 := Lib.hid hk1; have HOG := Lib.hid hog; have HBG := Lib.hid hBg; clear hk1 hO hog hBg cN)
  have HT2 : Hid ((w1.alloc (treeO (.slice (some ⟨g, 0, none⟩) 1 cap) 0)).heap[w1.heap.size]? = some (treeO (.slice (some ⟨g, 0, none⟩) 1 cap) 0)) := heap_alloc_new w1 _
  have HK2 : Hid (Kept (fun _ => False) w (w1.alloc (treeO (.slice (some ⟨g, 0, none⟩) 1 cap) 0))) := HK1.out.alloc _
  have HO2 := Lib.hid (HOG.out.kept ((Kept.refl (fun _ => False) w1).alloc (treeO (.slice (some ⟨g, 0, none⟩) 1 cap) 0)) id)
  simp only [treeO] at HT2 HK2 HO2
  obtain ⟨tb, htb⟩ : ∃ tb, w1.heap.size = tb := ⟨_, rfl⟩
  have HTB : Hid (w.heap.size ≤ tb) := by rw [← htb]; exact HK1.out.size
  simp only [htb] at HT2 ⊢
  clear htb
  generalize w1.alloc _ = w2 at *
  obtain ⟨t0, t1, _⟩ := tree_facts HT2.out
  obtain ⟨cs, hcs, hsz, hfl⟩ := HO2.out.row
  have h4 : Nd4 w2 ⟨g, 0, none⟩ ⟨0, -1, 0, s⟩ := (HO2.out.ng.nd (i := 0) rfl).2
  obtain ⟨e0, e1, e2, e3⟩ := h4.cs
  have k3 : w2.frozen? ⟨g, 3, none⟩ = false := frozen_of hcs
  have HCS := Lib.hid hcs
  have HTG : Hid (tb ≠ g) := by
    show _ ≠ _
    intro e
    have h1 := HT2.out
    rw [e, hcs] at h1
    injection h1 with h1
    injection h1 with _ h1
    exact absurd h1 (by decide)
  have HCZ : Hid (4 ≤ cs.size) := by have := HO2.out.le; show _ ≤ _; omega
  have HD4 : Hid (Nd4 (w2.setCell ⟨g, 3, none⟩ (.string ⟨#[]⟩)) ⟨g, 0, none⟩ ⟨0, -1, 0, ⟨#[]⟩⟩) := by
    have hz := HCZ.out
    have h2 := heap_set (i := 3) hcs (.string ⟨#[]⟩)
    refine ⟨?_, ?_, ?_, ?_⟩
    · rw [cell_of_row _ g 0 _ _ _ h2, Array.getElem?_setIfInBounds_ne (by decide), ← cell_of_row _ g 0 _ _ _ hcs]; exact e0
    · show World.cell? _ ⟨g, 0 + 1, none⟩ = _
      rw [cell_of_row _ g _ _ _ _ h2, Array.getElem?_setIfInBounds_ne (by decide), ← cell_of_row _ g _ _ _ _ hcs]; exact e1
    · show World.cell? _ ⟨g, 0 + 2, none⟩ = _
      rw [cell_of_row _ g _ _ _ _ h2, Array.getElem?_setIfInBounds_ne (by decide), ← cell_of_row _ g _ _ _ _ hcs]; exact e2
    · show World.cell? _ ⟨g, 0 + 3, none⟩ = _
      rw [cell_of_row _ g _ _ _ _ h2, Array.getElem?_setIfInBounds_self_of_lt (by omega)]
  have HK3 : Hid (Kept (fun q => q = g) w2 (w2.setCell ⟨g, 3, none⟩ (.string ⟨#[]⟩))) := (Kept.refl (fun q => q = g) w2).setCell (p := ⟨g, 3, none⟩) rfl _
  have HT3 : Hid ((w2.setCell ⟨g, 3, none⟩ (.string ⟨#[]⟩)).heap[tb]? = some (treeO (.slice (some ⟨g, 0, none⟩) 1 cap) 0)) := (heap_far HTG.out _).trans HT2.out
  clear h4 hcs hsz hfl
  go_upto_region 7 with fail
  generalize w2.setCell ⟨g, 3, none⟩ (.string ⟨#[]⟩) = w3 at *
  clear t0 t1 e0 e1 e2 e3 k3
  obtain ⟨t0, t1, _⟩ := tree_facts HT3.out
  have hmm := @run_makeMap Tryd.prog
  go_wp2_with fail
  have hK3 : Kept (fun _ => False) w w3 := HK2.out.fresh HK3.out (fun q hq (e : q = g) => by have := HBG.out; omega)
  have hK5 : Kept (fun _ => False) w3 ((w3.alloc (.map #[] 0)).alloc (histO (most : Int) (.slice (some ⟨g, 0, none⟩) 1 cap) 0 w3.heap.size s 0)) := ((Kept.refl _ w3).alloc _).alloc _
  have hbx := heap_alloc_new (w3.alloc (.map #[] 0)) (histO (most : Int) (.slice (some ⟨g, 0, none⟩) 1 cap) 0 w3.heap.size s 0)
  have hbe : (w3.alloc (.map #[] 0)).heap.size = w3.heap.size + 1 := by simp
  rw [hbe] at hbx
  have htw := HT.out.two
  have hsz3 := hK3.size
  have hng : Ng w3 (some ⟨g, 0, none⟩) 1 [⟨0, -1, 0, ⟨#[]⟩⟩] := by
    refine ⟨rfl, fun k e he => ⟨_, rfl, ?_⟩⟩
    match k, he with
    | 0, he =>
      injection he with he
      subst he
      exact HD4.out
    | k + 1, he => simp at he
  refine bodyPost_ret (v := .tuple #[.pointer (some ⟨w3.heap.size + 1, 0, none⟩), .int .i64 0]) (by simp [results, Tryd.results7, go_sem]) rfl ⟨⟨w3.heap.size + 1, rfl, ?_⟩, hK3.trans hK5⟩
  refine ⟨⟨⟨g, 0, none⟩, cap, w3.heap.size, [], ⟨(HT.out.kept hK3 id id).kept hK5 id id, hbx, hng.kept hK5 (fun _ _ => id), (MapI.new w3).kept ((Kept.refl (fun _ => False) _).alloc _) id, by omega⟩, HO2.out.le, by omega, (fun i hi => by simp at hi), fun i hi => rfl⟩, ?_, ?_, rfl, ?_, by omega⟩
  · exact inv_first ⟨#[]⟩ (by decide)
  · intro i e he
    match i, he with
    | 0, he =>
      injection he with he
      subst he
      rfl
    | k + 1, he => simp at he
  · intro t ht
    rw [List.mem_singleton.1 ht]
    exact HS.out
end Go.Proofs.YthbfmdnibijapaaDoor
namespace Go.Proofs.YthbfmdnibijapaaDoor
open Go Go.RowKit

/-- A tree with all texts empty. -/
def blank (L : List NodeS) : List NodeS := L.map (fun e => ⟨e.sq, e.pa, e.at_, ⟨#[]⟩⟩)
theorem blank_len (L : List NodeS) : (blank L).length = L.length := by simp [blank]
theorem blank_get {L : List NodeS} {i : Nat} {e : NodeS} (h : L[i]? = some e) : (blank L)[i]? = some ⟨e.sq, e.pa, e.at_, ⟨#[]⟩⟩ := by
  unfold blank
  rw [List.getElem?_map, h]
  rfl
theorem blank_of {L : List NodeS} {i : Nat} {e : NodeS} (h : (blank L)[i]? = some e) : ∃ x, L[i]? = some x ∧ e = ⟨x.sq, x.pa, x.at_, ⟨#[]⟩⟩ := by
  unfold blank at h
  rw [List.getElem?_map] at h
  cases hx : L[i]? with
  | none => rw [hx] at h; cases h
  | some x =>
    rw [hx] at h
    injection h with h
    exact ⟨x, rfl, h.symm⟩
theorem blank_idx (L : List NodeS) (z : Int) : idx (blank L) z = idx L z := by
  unfold idx blank
  rw [List.findIdx?_map]
  rfl
/-- A history of a tree. -/
structure Hx (B : Nat) (most : Nat) (hb : Nat) (L : List NodeS) (cur : Int) (k : Int) (W : World) : Prop where
  q : ∃ ad cp mb kv, Hq most ad L.length cp (blank L) cur mb hb (txAt L cur) k kv W ∧ L.length ≤ cp ∧ B ≤ mb ∧ (∀ z q d u, treeG L z = some (q, d, u) → kv.lookup z = some (lnkV d u)) ∧ (∀ z, idx L z ≤ 0 → kv.lookup z = none)
  tr : Tr8 L
  mt : MayT (blank L) cur
  lo : B ≤ hb
theorem Hx.kept {B most hb : Nat} {L : List NodeS} {cur k : Int} {W W' : World} (h : Hx B most hb L cur k W) (hk : Kept (fun _ => False) W W') : Hx B most hb L cur k W' := by
  obtain ⟨ad, cp, mb, kv, h1, h2⟩ := h.q
  exact ⟨⟨ad, cp, mb, kv, h1.kept hk, h2⟩, h.tr, h.mt, h.lo⟩
theorem treeG_good {L : List NodeS} {cur : Int} {kv : List (Int × Value)} (h : Tr8 L) (hm : MayT (blank L) cur) (hkv : ∀ z q d u, treeG L z = some (q, d, u) → kv.lookup z = some (lnkV d u)) : Good (blank L) kv (treeG L) := by
  intro z q d u hz
  obtain ⟨i, e, hi, he, hp⟩ := treeG_goodN h z q d u hz
  obtain ⟨j, x, hj, hx, hs⟩ := idx_some (show 0 ≤ idx L z by omega)
  have hr := (ref_of_ok hm.ok j _ (blank_get hx)).1.2.1
  refine ⟨i, _, by rw [blank_idx]; exact hi, blank_get he, hp, hkv z q d u hz, ?_⟩
  simp only at hr
  rw [← hs]
  exact WalkArith.wf_i64 (by omega)
/-- Texts laid back into the first k. -/
def backK (L : List NodeS) (k : Nat) : List NodeS := L.take k ++ (blank L).drop k
theorem backK_len (L : List NodeS) (k : Nat) : (backK L k).length = L.length := by
  unfold backK
  rw [List.length_append, List.length_take, List.length_drop, blank_len]
  omega
theorem backK_lo {L : List NodeS} {k i : Nat} (h : i < k) : (backK L k)[i]? = L[i]? := by
  unfold backK
  by_cases hi : i < L.length
  · rw [List.getElem?_append_left (by rw [List.length_take]; omega), List.getElem?_take, if_pos h]
  · rw [List.getElem?_eq_none (by rw [List.length_append, List.length_take, List.length_drop, blank_len]; omega), List.getElem?_eq_none (by omega)]
theorem backK_hi {L : List NodeS} {k i : Nat} (h : k ≤ i) : (backK L k)[i]? = (blank L)[i]? := by
  unfold backK
  by_cases hi : i < L.length
  · rw [List.getElem?_append_right (by rw [List.length_take]; omega), List.getElem?_drop, List.length_take]
    congr 1
    omega
  · rw [List.getElem?_eq_none (by rw [List.length_append, List.length_take, List.length_drop, blank_len]; omega), List.getElem?_eq_none (by rw [blank_len]; omega)]
theorem backK_step {L : List NodeS} {k : Nat} {e : NodeS} (h : L[k]? = some e) : (backK L k).set k ⟨e.sq, e.pa, e.at_, e.tx⟩ = backK L (k + 1) := by
  apply List.ext_getElem?
  intro i
  rw [List.getElem?_set]
  by_cases e1 : k = i
  · subst e1
    rw [if_pos rfl, if_pos (by rw [backK_len]; exact get_lt h), backK_lo (by omega), h]
  · rw [if_neg e1]
    by_cases e2 : i < k
    · rw [backK_lo e2, backK_lo (by omega)]
    · rw [backK_hi (by omega), backK_hi (by omega)]
theorem backK_all (L : List NodeS) : backK L L.length = L := by
  unfold backK
  rw [List.take_length, List.drop_eq_nil_of_le (by rw [blank_len]; exact Nat.le_refl _), List.append_nil]
theorem backK_zero (L : List NodeS) : backK L 0 = blank L := rfl
/-- A node's text written. -/
theorem Og.setTx {w : World} {g n cap : Nat} {M : List NodeS} (h : Og w g n cap M) {i : Nat} {e : NodeS} (he : M[i]? = some e) (s : ByteArray) : Og (w.setCell ⟨g, i * 4 + 3, none⟩ (.string s)) g n cap (M.set i ⟨e.sq, e.pa, e.at_, s⟩) := by
  obtain ⟨cs, h1, h2, h3⟩ := h.row
  have hl := h.len
  have hle := h.le
  have hi := get_lt he
  refine ⟨by simp [hl], h.le, h.mx, cs.setIfInBounds (i * 4 + 3) (.string s), heap_set h1 _, by simpa using h2, ?_⟩
  apply List.ext_getElem?
  intro j
  rw [List.getElem?_take]
  split
  · rename_i hj
    obtain ⟨k, f, hf, rfl⟩ : ∃ k f, f < 4 ∧ j = k * 4 + f := ⟨j / 4, j % 4, by omega, by omega⟩
    have hk : k < n := by omega
    obtain ⟨x, hx⟩ : ∃ x, M[k]? = some x := ⟨_, List.getElem?_eq_getElem (by omega)⟩
    rw [Array.getElem?_toList, Array.getElem?_setIfInBounds]
    obtain ⟨u, hu⟩ : ∃ u, x.vs[f]? = some u := ⟨_, List.getElem?_eq_getElem (by show f < 4; exact hf)⟩
    have hold : cs[k * 4 + f]? = some u := by
      have h4 := flatN_get hx hu
      rw [← h3, List.getElem?_take, if_pos hj, Array.getElem?_toList] at h4
      exact h4
    by_cases e1 : i = k
    · subst e1
      rw [he] at hx
      injection hx with hx
      subst hx
      have hset : (M.set i ⟨e.sq, e.pa, e.at_, s⟩)[i]? = some ⟨e.sq, e.pa, e.at_, s⟩ := by rw [List.getElem?_set, if_pos rfl, if_pos hi]
      by_cases e2 : f = 3
      · subst e2
        rw [if_pos rfl, if_pos (by omega), flatN_get hset (f := 3) rfl]
      · rw [if_neg (by omega), hold]
        symm
        refine flatN_get hset ?_
        rw [← hu]
        match f, hf with
        | 0, _ => rfl
        | 1, _ => rfl
        | 2, _ => rfl
        | 3, _ => exact absurd rfl e2
    · rw [if_neg (by omega), hold]
      symm
      exact flatN_get (by rw [List.getElem?_set, if_neg e1]; exact hx) hu
  · rename_i hj
    rw [List.getElem?_eq_none]
    rw [flatN_len, List.length_set]
    omega
end Go.Proofs.YthbfmdnibijapaaDoor
namespace Go.Proofs.YthbfmdnibijapaaDoor
open Go Go.RowKit

theorem lf_all {L : List NodeS} {cur : Int} {i : Nat} {e : NodeS} (hO : Ord L) (he : L[i]? = some e) (hc : e.sq ≠ cur) (b : Bool) (hb : b = true ↔ ∀ (j : Nat) (x : NodeS), L[j]? = some x → x.pa ≠ e.sq) : lfB L cur i = b := by
  unfold lfB
  rw [he]
  simp only
  have h1 : (e.sq != cur) = true := by simp [hc]
  rw [h1, Bool.true_and]
  have h2 : ((L.drop (i + 1)).any fun x => x.pa == e.sq) = true ↔ ¬ ∀ (j : Nat) (x : NodeS), L[j]? = some x → x.pa ≠ e.sq := by
    rw [List.any_eq_true]
    constructor
    · rintro ⟨x, hx, hp⟩ h
      obtain ⟨k, hk, rfl⟩ := List.getElem_of_mem hx
      have hk2 : (L.drop (i + 1))[k]? = some (L.drop (i + 1))[k] := List.getElem?_eq_getElem hk
      rw [List.getElem?_drop] at hk2
      exact h _ _ hk2 (by simpa using hp)
    · intro h
      by_cases hx : ∃ x ∈ L.drop (i + 1), x.pa = e.sq
      · obtain ⟨x, hx, hp⟩ := hx
        exact ⟨x, hx, by simp [hp]⟩
      · exfalso
        refine h fun j x hj hp => ?_
        by_cases hji : j ≤ i
        · have hm := hO.pa x (List.mem_of_getElem? hj)
          by_cases hji2 : j = i
          · subst hji2
            rw [he] at hj
            injection hj with hj
            subst hj
            omega
          · have := hO.srt j i x e hj he (by omega)
            omega
        · refine hx ⟨x, ?_, hp⟩
          have : (L.drop (i + 1))[j - (i + 1)]? = some x := by rw [List.getElem?_drop, show i + 1 + (j - (i + 1)) = j by omega]; exact hj
          exact List.mem_of_getElem? this
  cases b with
  | true =>
    have h3 := hb.1 rfl
    cases h4 : ((L.drop (i + 1)).any fun x => x.pa == e.sq) with
    | true => exact absurd h3 (h2.1 h4)
    | false => rfl
  | false =>
    cases h4 : ((L.drop (i + 1)).any fun x => x.pa == e.sq) with
    | true => rfl
    | false =>
      exfalso
      have h5 : ¬ ¬ ∀ (j : Nat) (x : NodeS), L[j]? = some x → x.pa ≠ e.sq := fun h => by rw [h2.2 h] at h4; cases h4
      exact h5 fun h => by have := hb.2 h; cases this
def elr (L : List NodeS) (cur : Int) : Int := if elf L cur = 0 then -1 else (elf L cur : Nat)
set_option maxRecDepth 100000 in
set_option maxHeartbeats 8000000 in
theorem rleaf_any (ad : Addr) (n c : Nat) (L : List NodeS) (cur : Int) (w : World) (hA : Ng w (some ad) n L) (hn : n ≤ 100000) (hn1 : 1 ≤ n) (hT : Tabs w) (hO : Ord L) :
    Calls Tryd.prog 35 #[treeV (.slice (some ad) n c) cur] w fun r w' => r = .returned (.int .i64 (elr L cur)) ∧ Kept (fun _ => False) w w' := by
  have hl := hA.len
  have HK0 : Hid (Kept (fun _ => False) w (w.alloc (treeO (.slice (some ad) n c) cur))) := (Kept.refl _ w).alloc _
  have HI0 := Lib.hid (trh_new (c := c) (cur := cur) hT hA)
  obtain ⟨tb, htb⟩ : ∃ tb, w.heap.size = tb := ⟨_, rfl⟩
  have HTB := Lib.hid htb
  rw [htb] at HI0
  have HHL := Lib.hid hl
  have HO := Lib.hid hO
  obtain ⟨R, hR⟩ : ∃ R, elr L cur = R := ⟨_, rfl⟩
  rw [hR]
  have HR := Lib.hid hR
  clear htb hA hT hl hR hO
  go_enter Tryd.func35, Tryd.ntmps35
  go_upto_region 1 with fail
  simp only [HTB.out]
  simp only [treeO] at HI0 HK0
  generalize w.alloc _ = w0 at *
  go_wp2_with fail
  go_loopw [3] (fun v wr => ∃ i : Nat, 1 ≤ i ∧ i ≤ n ∧ v = .int .i64 i ∧ (∀ k, 1 ≤ k → k < i → lfB L cur k = false) ∧ Kept (fun _ => False) w0 wr) (fun v _ => n - (intOf v).toNat)
  case atStart => exact ⟨1, Nat.le_refl _, hn1, rfl, (fun k h1 h2 => by omega), Kept.refl _ _⟩
  case round =>
    obtain ⟨i, hi1, hin, rfl, hat, hkr⟩ := hrel
    have HAT := Lib.hid hat
    have HIr := Lib.hid (HI0.out.kept hkr)
    have HKr := Lib.hid hkr
    clear hat hkr
    obtain ⟨t0, t1⟩ := HIr.out.cells
    by_cases hlt : i < n
    · obtain ⟨e, he⟩ : ∃ e, L[i]? = some e := ⟨_, List.getElem?_eq_getElem (by rw [HHL.out]; exact hlt)⟩
      have f0 := (HIr.out.ng.nd he).2.c0
      have b1 : decide (i < n) = true := decide_eq_true hlt
      have b2 : decide ((i : Int) < (n : Int)) = true := decide_eq_true (by omega)
      have b3 : (0 : Int) ≤ (i : Int) := by omega
      have b4 : (i : Int) < (n : Int) := by omega
      have HE := Lib.hid he
      clear he
      go_upto_region 4 with fail
      clear b1 b2
      by_cases hsc : e.sq = cur
      · have hne : (e.sq == cur) = true := by simp [hsc]
        have HF : Hid (∀ k, 1 ≤ k → k < i + 1 → lfB L cur k = false) := fun k h1 h2 => by
          by_cases hk : k = i
          · subst hk
            unfold lfB
            rw [HE.out]
            simp [hsc]
          · exact HAT.out k h1 (by omega)
        clear hsc
        go_quiet (fail)
        go_wp2_with fail
        go_roundw
        case rel => exact ⟨i + 1, by omega, by omega, by go_num, HF.out, HKr.out.drewN _⟩
        case measure => simp [intOf]; omega
      · have hne : (e.sq == cur) = false := by rw [beq_eq_false_iff_ne]; exact hsc
        have HSC := Lib.hid hsc
        clear hsc
        go_quiet (fail)
        go_wp2_with fail
        clear hne t0 t1 f0
        go_loopw [4, 5] (fun bv v wr => ∃ (k : Nat) (b : Bool), k ≤ n ∧ bv = .bool b ∧ v = .int .i64 k ∧ (b = true ↔ ∀ (j : Nat) (x : NodeS), j < k → L[j]? = some x → x.pa ≠ e.sq) ∧ Kept (fun _ => False) w0 wr) (fun _ v _ => n - (intOf v).toNat)
        case atStart => exact ⟨0, true, Nat.zero_le _, rfl, rfl, ⟨fun _ j x hj => absurd hj (Nat.not_lt_zero _), fun _ => rfl⟩, HKr.out.drewN _⟩
        case round =>
          obtain ⟨k, b, hk, rfl, rfl, hb, hkq⟩ := hrel
          have HB := Lib.hid hb
          have HKq := Lib.hid hkq
          have HIq := Lib.hid (HI0.out.kept hkq)
          clear hb hkq
          obtain ⟨t0, t1⟩ := HIq.out.cells
          by_cases hkn : k < n
          · obtain ⟨x, hx⟩ : ∃ x, L[k]? = some x := ⟨_, List.getElem?_eq_getElem (by rw [HHL.out]; exact hkn)⟩
            have g1 := (HIq.out.ng.nd hx).2.c1
            have f0 := (HIq.out.ng.nd HE.out).2.c0
            have b1 : decide (k < n) = true := decide_eq_true hkn
            have b2 : decide ((k : Int) < (n : Int)) = true := decide_eq_true (by omega)
            have b5 : (0 : Int) ≤ (k : Int) := by omega
            have b6 : (k : Int) < (n : Int) := by omega
            have HX := Lib.hid hx
            clear hx
            go_upto_region 9 with fail
            clear b1 b2
            cases b with
            | false =>
              have HB2 : Hid (false = true ↔ ∀ (j : Nat) (y : NodeS), j < k + 1 → L[j]? = some y → y.pa ≠ e.sq) := ⟨fun h => (by cases h), fun h => HB.out.2 fun j y hj hy => h j y (by omega) hy⟩
              go_quiet (fail)
              go_wp2_with fail
              go_roundw
              case rel => exact ⟨k + 1, false, by omega, rfl, by go_num, HB2.out, HKq.out.drewN _⟩
              case measure => simp [intOf]; omega
            | true =>
              by_cases hp : x.pa = e.sq
              · have hpe : (x.pa != e.sq) = false := by simp [hp]
                have HB2 : Hid (false = true ↔ ∀ (j : Nat) (y : NodeS), j < k + 1 → L[j]? = some y → y.pa ≠ e.sq) := ⟨fun h => (by cases h), fun h => absurd hp (h k x (by omega) HX.out)⟩
                clear hp
                go_quiet (fail)
                go_wp2_with fail
                go_roundw
                case rel => exact ⟨k + 1, false, by omega, rfl, by go_num, HB2.out, HKq.out.drewN _⟩
                case measure => simp [intOf]; omega
              · have hpe : (x.pa != e.sq) = true := by simp [hp]
                have HB2 : Hid (true = true ↔ ∀ (j : Nat) (y : NodeS), j < k + 1 → L[j]? = some y → y.pa ≠ e.sq) := ⟨fun _ j y hj hy => by
                  by_cases h : j = k
                  · subst h
                    rw [HX.out] at hy
                    injection hy with hy
                    subst hy
                    exact hp
                  · exact HB.out.1 rfl j y (by omega) hy, fun _ => rfl⟩
                clear hp
                go_quiet (fail)
                go_wp2_with fail
                go_roundw
                case rel => exact ⟨k + 1, true, by omega, rfl, by go_num, HB2.out, HKq.out.drewN _⟩
                case measure => simp [intOf]; omega
          · obtain rfl : k = n := by omega
            have b1 : decide (k < k) = false := decide_eq_false (by omega)
            have b2 : decide ((k : Int) < (k : Int)) = false := decide_eq_false (by omega)
            have HLF : Hid (lfB L cur i = b) := lf_all HO.out HE.out HSC.out b ⟨fun h j x hx => HB.out.1 h j x (by have := get_lt hx; have := HHL.out; omega) hx, fun h => HB.out.2 fun j x _ hx => h j x hx⟩
            cases b with
            | true =>
              have HF : Hid (R = (i : Nat)) := by
                show _ = _
                rw [← HR.out]
                have h := elf_hit hi1 (by rw [HHL.out]; exact hlt) HLF.out HAT.out
                unfold elr
                rw [h, if_neg (by omega)]
              go_wp2_with fail
              go_ret
              exact ⟨by rw [HF.out]; rfl, HK0.out.trans HKq.out⟩
            | false =>
              have HF : Hid (∀ q, 1 ≤ q → q < i + 1 → lfB L cur q = false) := fun q h1 h2 => by
                by_cases hq : q = i
                · subst hq
                  exact HLF.out
                · exact HAT.out q h1 (by omega)
              go_wp2_with fail
              go_roundw
              case rel => exact ⟨i + 1, by omega, by omega, by go_num, HF.out, HKq.out⟩
              case measure => simp [intOf]; omega
    · obtain rfl : i = n := by omega
      have b1 : decide ((i : Int) < (i : Int)) = false := by simp
      have b2 : decide (i < i) = false := by simp
      have HF : Hid (R = -1) := by
        show _ = _
        rw [← HR.out]
        unfold elr
        rw [if_pos (elf_miss (fun k h1 h2 => HAT.out k h1 (by rw [HHL.out] at h2; exact h2)))]
      go_wp2_with fail
      go_ret
      exact ⟨by rw [HF.out]; rfl, HK0.out.trans HKr.out⟩
end Go.Proofs.YthbfmdnibijapaaDoor
