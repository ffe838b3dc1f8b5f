/-
  HISTORY: a row of texts: begun, committed to.
-/
import Derived.Test.YthbfmdnibijapaaDoorHiG
import Derived.Carry
set_option linter.unusedVariables false
namespace Go.Proofs.YthbfmdnibijapaaDoor
open Go Go.RowKit

theorem lookup_snoc {l : List (Int × Value)} {z y : Int} {v : Value} : (l ++ [(y, v)]).lookup z = (l.lookup z).or (if z = y then some v else none) := by
  rw [List.lookup_append]
  congr 1
  rw [List.lookup_cons]
  by_cases h : z = y
  · rw [if_pos h, show (z == y) = true by simp [h]]
  · rw [if_neg h, show (z == y) = false by rw [beq_eq_false_iff_ne]; exact h]
    rfl
theorem hccommit_yes {B most hb : Nat} {L : List NodeS} {c : Nat} {S : List ByteArray} {k : Int} {W : World} (h : Hc B most hb L c S k W) (hce : c + 1 = L.length) (hm : 2 ≤ most ∧ most ≤ 64) (hl : L.length + 1 ≤ most) (hl6 : L.length ≤ 60) (hB : B ≤ W.heap.size) (t : ByteArray) (at' : Int) (ht : mayB t = true) (ha : 0 ≤ at' ∧ at' ≤ 4000) :
    Calls Tryd.prog 25 #[.pointer (some ⟨hb, 0, none⟩), .string t, .int .i64 at'] W fun r w' => r = .returned (.int .i64 0) ∧ Hc B most hb (L ++ [⟨(L.length : Int), (c : Int), at', ⟨#[]⟩⟩]) (c + 1) (S ++ [t]) k w' ∧ Kept (fun q => B ≤ q) W w' := by
  obtain ⟨ad, cp, mb, kv, hq, hcp, hmb, hkv, hno⟩ := h.q
  have hI := h.inv
  obtain ⟨l, hla, hlq⟩ := hI.last
  have hI2 := hI.snocA (s := ⟨#[]⟩) ha (by decide) hl6
  have hrep : List.replicate L.length (⟨#[]⟩ : ByteArray) ++ [⟨#[]⟩] = List.replicate (L ++ [(⟨(L.length : Int), (c : Int), at', ⟨#[]⟩⟩ : NodeS)]).length ⟨#[]⟩ := by
    rw [List.length_append, List.length_singleton, List.replicate_succ']
  rw [hrep] at hI2
  have hcmt : cmt L c l.sq ⟨#[]⟩ at' most = (L ++ [⟨(L.length : Int), (c : Int), at', ⟨#[]⟩⟩], (L.length : Int)) := by rw [cmt_few hl, hlq]
  have hsl := h.sl
  obtain ⟨L', hL'⟩ : ∃ L', L ++ [(⟨(L.length : Int), (c : Int), at', ⟨#[]⟩⟩ : NodeS)] = L' := ⟨_, rfl⟩
  have hlen : L'.length = L.length + 1 := by rw [← hL']; simp
  have hkey : ∀ (i : Nat) (e : NodeS), L'[i + 1]? = some e → e.sq = ((i + 1 : Nat) : Int) ∧ i + 1 < L'.length := by
    intro i e he
    rw [← hL'] at he
    refine ⟨hI2.sq _ _ he, ?_⟩
    rcases Nat.lt_or_ge (i + 1) L'.length with h' | h'
    · exact h'
    · rw [hL', List.getElem?_eq_none h'] at he; cases he
  have hlk : ∀ i : Nat, i + 1 < L'.length → (kv ++ [((L.length : Int), lnkV (bt (tAt S c) t) (bt t (tAt S c)))]).lookup ((i + 1 : Nat) : Int) = some (lnkS (S ++ [t]) i) := by
    intro i hi
    rw [lookup_snoc]
    by_cases h1 : i + 1 < L.length
    · rw [hkv i h1]
      show some _ = some _
      unfold lnkS
      rw [tAt_app (by omega), tAt_app (by omega)]
    · have e1 : i + 1 = L.length := by omega
      have e2 : i = c := by omega
      rw [e1, hno _ (Nat.le_refl _), if_pos rfl]
      show some _ = some _
      unfold lnkS
      rw [e2, tAt_app (by omega), show c + 1 = S.length by omega, tAt_end]
  have hwf : ∀ i : Nat, i ≤ 1000 → (Lit.int .i64 ((i : Nat) : Int)).wf = true := fun i hi => WalkArith.wf_i64 (by omega)
  have cC := hcommit_any most t at' l (L', (L.length : Int)) W hq hcp hI.may (tAt_may h.may _) ht ha hm hla (by omega) (by rw [hcmt, hL']) (by rw [hL'] at hI2; exact ok_srt hI2.may.ok) (by simp only; omega) (hno _ (Nat.le_refl _)) (hwf _ (by omega)) (by
    intro e he
    simp only at he
    obtain ⟨i, hi⟩ := List.getElem?_of_mem he
    rw [List.getElem?_drop, Nat.add_comm 1 i] at hi
    obtain ⟨h1, h2⟩ := hkey i e hi
    rw [h1]
    exact ⟨⟨_, hlk i h2⟩, hwf _ (by omega)⟩)
  refine cC.mono ?_
  rintro r w' ⟨rfl, ⟨g, c', mb', hg, hmb', hc', hq'⟩, hk'⟩
  simp only at hc' hq'
  refine ⟨rfl, ⟨⟨⟨g, 0, none⟩, c', mb', keepL (kv ++ [((L.length : Int), lnkV (bt (tAt S c) t) (bt t (tAt S c)))]) (L'.drop 1), ?_, ?_, by omega, ?_, ?_⟩, ?_, ?_, ?_, ?_, h.lo⟩, hk'.mono (fun q _ e => by have := h.lo; omega)⟩
  · rw [hL', show ((c + 1 : Nat) : Int) = (L.length : Int) by omega, show c + 1 = S.length by omega, tAt_end]
    exact hq'
  · rw [hL']; exact hc'
  · intro i hi
    rw [hL'] at hi
    obtain ⟨e, he⟩ : ∃ e, L'[i + 1]? = some e := ⟨_, List.getElem?_eq_getElem hi⟩
    have h1 := (hkey i e he).1
    rw [← h1]
    refine keepL_has (List.mem_of_getElem? (i := i) (by rw [List.getElem?_drop, Nat.add_comm 1 i]; exact he)) ?_
    rw [h1]
    exact hlk i hi
  · intro i hi
    rw [hL'] at hi
    refine lookup_none (fun p hp => ?_)
    unfold keepL at hp
    obtain ⟨x, hx, rfl⟩ := List.mem_map.1 hp
    obtain ⟨j, hj⟩ := List.getElem?_of_mem hx
    rw [List.getElem?_drop, Nat.add_comm 1 j] at hj
    obtain ⟨h1, h2⟩ := hkey j x hj
    show x.sq ≠ _
    omega
  · have := hI2.cur (d := c + 1) (by rw [hL']; omega)
    exact this
  · intro i e he
    by_cases hi : i < L.length
    · rw [List.getElem?_append_left hi] at he
      exact h.par i e he
    · have hi2 : i = L.length := by
        rcases Nat.lt_or_ge i (L ++ [(⟨(L.length : Int), (c : Int), at', ⟨#[]⟩⟩ : NodeS)]).length with h' | h'
        · simp at h'; omega
        · rw [List.getElem?_eq_none h'] at he; cases he
      subst hi2
      rw [List.getElem?_append_right (Nat.le_refl _), Nat.sub_self] at he
      injection he with he
      subst he
      show (c : Int) = _
      omega
  · simp [hsl]
  · intro s hs
    rcases List.mem_append.1 hs with hs | hs
    · exact h.may s hs
    · rw [List.mem_singleton.1 hs]; exact ht
theorem hccommit_no {B most hb : Nat} {L : List NodeS} {c : Nat} {S : List ByteArray} {k : Int} {W : World} (h : Hc B most hb L c S k W) (t : ByteArray) (at' : Int) (ht : mayB t = false) (hsz : t.size ≤ 140737488351232) :
    Calls Tryd.prog 25 #[.pointer (some ⟨hb, 0, none⟩), .string t, .int .i64 at'] W fun r w' => r = .returned (.int .i64 1) ∧ Kept (fun _ => False) W w' := by
  obtain ⟨ad, cp, mb, kv, hq, _⟩ := h.q
  have := mayB_size (tAt_may h.may c)
  exact hcommit_bad most t at' W hq (by omega) hsz ht
set_option maxRecDepth 100000 in
set_option maxHeartbeats 4000000 in
theorem hcnew_any (most : Nat) (s : ByteArray) (w : World) (hT : Tabs w) (hm : 2 ≤ most ∧ most ≤ 64) (hs : mayB s = true) :
    Calls Tryd.prog 7 #[.int .i64 most, .string s] w fun r w' => (∃ hb, r = .returned (.tuple #[.pointer (some ⟨hb, 0, none⟩), .int .i64 0]) ∧ Hc w.heap.size most hb [⟨0, -1, 0, ⟨#[]⟩⟩] 0 [s] 0 w') ∧ Kept (fun _ => False) w w' := by
  have cN := new_any s w hT hs
  have q1 : decide ((most : Int) < 2) = false := decide_eq_false (by omega)
  have q2 : decide ((64 : Int) < (most : Int)) = false := decide_eq_false (by omega)
  have q3 : decide (most < 2) = false := decide_eq_false (by omega)
  have q4 : decide (64 < most) = false := decide_eq_false (by omega)
  have HT := Lib.hid hT
  have HS := Lib.hid hs
  clear hT hs
  go_enter Tryd.func7, Tryd.ntmps7
  go_upto_region 4 with (go_at_call 29; refine cN.mono ?_; rintro r w1 ⟨⟨v, rfl, hO⟩, hk1⟩; obtain ⟨g, cap, rfl, hBg, hog⟩ := hO.og' (n := 1) rfl (by decide); have HK1 := Lib.hid hk1; have HOG := Lib.hid hog; have HBG := Lib.hid hBg; clear hk1 hO hog hBg cN)
  have HT2 : Hid ((w1.alloc (treeO (.slice (some ⟨g, 0, none⟩) 1 cap) 0)).heap[w1.heap.size]? = some (treeO (.slice (some ⟨g, 0, none⟩) 1 cap) 0)) := heap_alloc_new w1 _
  have HK2 : Hid (Kept (fun _ => False) w (w1.alloc (treeO (.slice (some ⟨g, 0, none⟩) 1 cap) 0))) := HK1.out.alloc _
  have HO2 := Lib.hid (HOG.out.kept ((Kept.refl (fun _ => False) w1).alloc (treeO (.slice (some ⟨g, 0, none⟩) 1 cap) 0)) id)
  simp only [treeO] at HT2 HK2 HO2
  obtain ⟨tb, htb⟩ : ∃ tb, w1.heap.size = tb := ⟨_, rfl⟩
  have HTB : Hid (w.heap.size ≤ tb) := by rw [← htb]; exact HK1.out.size
  simp only [htb] at HT2 ⊢
  clear htb
  generalize w1.alloc _ = w2 at *
  obtain ⟨t0, t1, _⟩ := tree_facts HT2.out
  obtain ⟨cs, hcs, hsz, hfl⟩ := HO2.out.row
  have h4 : Nd4 w2 ⟨g, 0, none⟩ ⟨0, -1, 0, s⟩ := (HO2.out.ng.nd (i := 0) rfl).2
  obtain ⟨e0, e1, e2, e3⟩ := h4.cs
  have k3 : w2.frozen? ⟨g, 3, none⟩ = false := frozen_of hcs
  have HCS := Lib.hid hcs
  have HTG : Hid (tb ≠ g) := by
    show _ ≠ _
    intro e
    have h1 := HT2.out
    rw [e, hcs] at h1
    injection h1 with h1
    injection h1 with _ h1
    exact absurd h1 (by decide)
  have HCZ : Hid (4 ≤ cs.size) := by have := HO2.out.le; show _ ≤ _; omega
  have HD4 : Hid (Nd4 (w2.setCell ⟨g, 3, none⟩ (.string ⟨#[]⟩)) ⟨g, 0, none⟩ ⟨0, -1, 0, ⟨#[]⟩⟩) := by
    have hz := HCZ.out
    have h2 := heap_set (i := 3) hcs (.string ⟨#[]⟩)
    refine ⟨?_, ?_, ?_, ?_⟩
    · rw [cell_of_row _ g 0 _ _ _ h2, Array.getElem?_setIfInBounds_ne (by decide), ← cell_of_row _ g 0 _ _ _ hcs]; exact e0
    · show World.cell? _ ⟨g, 0 + 1, none⟩ = _
      rw [cell_of_row _ g _ _ _ _ h2, Array.getElem?_setIfInBounds_ne (by decide), ← cell_of_row _ g _ _ _ _ hcs]; exact e1
    · show World.cell? _ ⟨g, 0 + 2, none⟩ = _
      rw [cell_of_row _ g _ _ _ _ h2, Array.getElem?_setIfInBounds_ne (by decide), ← cell_of_row _ g _ _ _ _ hcs]; exact e2
    · show World.cell? _ ⟨g, 0 + 3, none⟩ = _
      rw [cell_of_row _ g _ _ _ _ h2, Array.getElem?_setIfInBounds_self_of_lt (by omega)]
  have HK3 : Hid (Kept (fun q => q = g) w2 (w2.setCell ⟨g, 3, none⟩ (.string ⟨#[]⟩))) := (Kept.refl (fun q => q = g) w2).setCell (p := ⟨g, 3, none⟩) rfl _
  have HT3 : Hid ((w2.setCell ⟨g, 3, none⟩ (.string ⟨#[]⟩)).heap[tb]? = some (treeO (.slice (some ⟨g, 0, none⟩) 1 cap) 0)) := (heap_far HTG.out _).trans HT2.out
  clear h4 hcs hsz hfl
  go_upto_region 7 with fail
  generalize w2.setCell ⟨g, 3, none⟩ (.string ⟨#[]⟩) = w3 at *
  clear t0 t1 e0 e1 e2 e3 k3
  obtain ⟨t0, t1, _⟩ := tree_facts HT3.out
  have hmm := @run_makeMap Tryd.prog
  go_wp2_with fail
  have hK3 : Kept (fun _ => False) w w3 := HK2.out.fresh HK3.out (fun q hq (e : q = g) => by have := HBG.out; omega)
  have hK5 : Kept (fun _ => False) w3 ((w3.alloc (.map #[] 0)).alloc (histO (most : Int) (.slice (some ⟨g, 0, none⟩) 1 cap) 0 w3.heap.size s 0)) := ((Kept.refl _ w3).alloc _).alloc _
  have hbx := heap_alloc_new (w3.alloc (.map #[] 0)) (histO (most : Int) (.slice (some ⟨g, 0, none⟩) 1 cap) 0 w3.heap.size s 0)
  have hbe : (w3.alloc (.map #[] 0)).heap.size = w3.heap.size + 1 := by simp
  rw [hbe] at hbx
  have htw := HT.out.two
  have hsz3 := hK3.size
  have hng : Ng w3 (some ⟨g, 0, none⟩) 1 [⟨0, -1, 0, ⟨#[]⟩⟩] := by
    refine ⟨rfl, fun k e he => ⟨_, rfl, ?_⟩⟩
    match k, he with
    | 0, he =>
      injection he with he
      subst he
      exact HD4.out
    | k + 1, he => simp at he
  refine bodyPost_ret (v := .tuple #[.pointer (some ⟨w3.heap.size + 1, 0, none⟩), .int .i64 0]) (by simp [results, Tryd.results7, go_sem]) rfl ⟨⟨w3.heap.size + 1, rfl, ?_⟩, hK3.trans hK5⟩
  refine ⟨⟨⟨g, 0, none⟩, cap, w3.heap.size, [], ⟨(HT.out.kept hK3 id id).kept hK5 id id, hbx, hng.kept hK5 (fun _ _ => id), (MapI.new w3).kept ((Kept.refl (fun _ => False) _).alloc _) id, by omega⟩, HO2.out.le, by omega, (fun i hi => by simp at hi), fun i hi => rfl⟩, ?_, ?_, rfl, ?_, by omega⟩
  · exact inv_first ⟨#[]⟩ (by decide)
  · intro i e he
    match i, he with
    | 0, he =>
      injection he with he
      subst he
      rfl
    | k + 1, he => simp at he
  · intro t ht
    rw [List.mem_singleton.1 ht]
    exact HS.out
end Go.Proofs.YthbfmdnibijapaaDoor
