/-
  THE PROGRAM's ways tell what the reference's Walk tells; Commit in all its ways.
  HISTORY of a tree: led to whichever node; the five ways.
-/
import Derived.Test.YthbfmdnibijapaaDoorUnY
import Derived.Test.YthbfmdnibijapaaDoorHz11
import Derived.Test.YthbfmdnibijapaaDoorHz19
set_option linter.unusedVariables false
namespace Go.Proofs.YthbfmdnibijapaaDoor
open Go Go.RowKit

theorem wkr_neg {y : Nat} {L : List NodeS} {cur : Int} {ei : NodeS} (h : wki y cur ei.pa L L.length < 0) : wkR y L cur ei = wr0 6 := by
  unfold wkR
  split
  · rw [if_pos h]
  · rfl
theorem wkr_pos {y p : Nat} {L : List NodeS} {cur : Int} {ei ep : NodeS} (h : wki y cur ei.pa L L.length = (p : Nat)) (hp : L[p]? = some ep) : wkR y L cur ei = ⟨L, ep.sq, ep.tx, if y = 1 then ei.at_ else ep.at_, 0⟩ := by
  unfold wkR
  rw [h, show ((p : Int)).toNat = p from rfl, hp]
  simp only
  rw [if_neg (by omega)]
theorem wki_spec3 {y : Nat} (hy : y = 1 ∨ y = 2 ∨ y = 3) {cur par : Int} {L : List NodeS} : ∀ (k : Nat), k ≤ L.length →
    (wki y cur par L k = -1 ∧ ∀ (j : Nat) (e : NodeS), j < k → L[j]? = some e → wkc y cur par e 0 = false) ∨
    ∃ (j : Nat) (e : NodeS), j < k ∧ L[j]? = some e ∧ wki y cur par L k = (j : Nat) ∧ wkc y cur par e 0 = true ∧ ∀ (j' : Nat) (e' : NodeS), j < j' → j' < k → L[j']? = some e' → wkc y cur par e' 0 = false
  | 0, _ => .inl ⟨rfl, fun j e h => absurd h (Nat.not_lt_zero _)⟩
  | k + 1, hk => by
    have ih := wki_spec3 hy (cur := cur) (par := par) (L := L) k (by omega)
    obtain ⟨e, he⟩ : ∃ e, L[k]? = some e := ⟨_, List.getElem?_eq_getElem (by omega)⟩
    have hc : ∀ t, wkc y cur par e t = wkc y cur par e 0 := fun t => by
      unfold wkc
      rcases hy with rfl | rfl | rfl <;> rfl
    by_cases h : wkc y cur par e 0 = true
    · exact .inr ⟨k, e, by omega, he, wki_yes he (by rw [hc]; exact h), h, fun j' e' h1 h2 => absurd h2 (by omega)⟩
    · have h' : wkc y cur par e 0 = false := by simpa using h
      have hn := wki_no he (by rw [hc]; exact h')
      rcases ih with ⟨i1, i2⟩ | ⟨j, ej, i1, i2, i3, i4, i5⟩
      · refine .inl ⟨hn.trans i1, fun j e2 hj h2 => ?_⟩
        by_cases hjk : j = k
        · subst hjk; rw [he] at h2; injection h2 with h2; subst h2; exact h'
        · exact i2 j e2 (by omega) h2
      · refine .inr ⟨j, ej, by omega, i2, hn.trans i3, i4, fun j' e' h1 h2 h3 => ?_⟩
        by_cases hjk : j' = k
        · subst hjk; rw [he] at h3; injection h3 with h3; subst h3; exact h'
        · exact i5 j' e' h1 (by omega) h3
theorem wki_spec4 {cur par : Int} {L : List NodeS} : ∀ (k : Nat), k ≤ L.length →
    (wki 4 cur par L k = -1 ∧ ∀ (j : Nat) (e : NodeS), j < k → L[j]? = some e → ¬ cur < e.sq) ∨
    ∃ (j : Nat) (e : NodeS), j < k ∧ L[j]? = some e ∧ wki 4 cur par L k = (j : Nat) ∧ cur < e.sq ∧ ∀ (j' : Nat) (e' : NodeS), j' < j → L[j']? = some e' → ¬ cur < e'.sq
  | 0, _ => .inl ⟨rfl, fun j e h => absurd h (Nat.not_lt_zero _)⟩
  | k + 1, hk => by
    have ih := wki_spec4 (cur := cur) (par := par) (L := L) k (by omega)
    obtain ⟨e, he⟩ : ∃ e, L[k]? = some e := ⟨_, List.getElem?_eq_getElem (by omega)⟩
    rcases ih with ⟨i1, i2⟩ | ⟨j, ej, i1, i2, i3, i4, i5⟩
    · by_cases h : cur < e.sq
      · exact .inr ⟨k, e, by omega, he, wki_yes he (by rw [i1]; show (decide (cur < e.sq) && decide ((-1 : Int) < 0)) = true; rw [decide_eq_true h]; rfl), h, fun j' e' h1 h2 => i2 j' e' h1 h2⟩
      · refine .inl ⟨(wki_no he (by show (decide (cur < e.sq) && _) = false; rw [decide_eq_false h]; rfl)).trans i1, fun j e2 hj h2 => ?_⟩
        by_cases hjk : j = k
        · subst hjk; rw [he] at h2; injection h2 with h2; subst h2; exact h
        · exact i2 j e2 (by omega) h2
    · exact .inr ⟨j, ej, by omega, i2, (wki_no he (by rw [i3]; show (decide (cur < e.sq) && decide (((j : Nat) : Int) < 0)) = false; rw [decide_eq_false (show ¬ ((j : Nat) : Int) < 0 by omega)]; simp)).trans i3, i4, i5⟩
/-- Where Cur stands, and what is known there. -/
theorem may_cur {L : List NodeS} {cur : Int} (hM : MayT L cur) : ∃ (i : Nat) (ei : NodeS), idx L cur = (i : Nat) ∧ L[i]? = some ei ∧ ei.sq = cur ∧ i < L.length := by
  obtain ⟨j, e, h1, h2, h3⟩ := idx_some hM.cu
  exact ⟨j, e, h1, h2, h3, get_lt h2⟩
theorem may_root {L : List NodeS} {cur : Int} (hM : MayT L cur) {e : NodeS} (he : L[0]? = some e) : e.sq = 0 ∧ e.pa = -1 := ((ref_of_ok hM.ok 0 e he).1).1 rfl
set_option maxRecDepth 100000 in
set_option maxHeartbeats 4000000 in
theorem pwalk1_any (ad : Addr) (n c : Nat) (L : List NodeS) (cur : Int) (w : World) (hA : Ng w (some ad) n L) (hnc : n ≤ c) (hT : Tabs w) (hM : MayT L cur) (i : Nat) (ei : NodeS) (hi : idx L cur = (i : Nat)) (hei : L[i]? = some ei) :
    Calls Tryd.prog 46 #[treeV (.slice (some ad) n c) cur] w (Told w (wkR 1 L cur ei)) := by
  have ho := ok_ord hM.ok
  have hs := ho.srt
  have hl := hA.len
  have hsq : ei.sq = cur := by
    obtain ⟨j, e, h1, h2, h3⟩ := idx_some hM.cu
    rw [hi] at h1
    have h1 : i = j := by omega
    subst h1
    rw [hei] at h2
    injection h2 with h2
    rw [h2]
    exact h3
  have hin := get_lt hei
  have hgc : 0 ≤ cur := by rw [← hsq]; exact ho.ge _ (List.mem_of_getElem? hei)
  rcases wki_spec3 (y := 1) (.inl rfl) (cur := cur) (par := ei.pa) (L := L) L.length (Nat.le_refl _) with ⟨h1, h2⟩ | ⟨j, e, h1, h2, h3, h4, h5⟩
  · rw [wkr_neg (by rw [h1]; decide)]
    have hi0 : i = 0 := by
      by_cases h : i = 0
      · exact h
      · have hb := (ref_of_ok hM.ok i ei hei).2 (by omega)
        obtain ⟨p, ep, q1, q2, q3⟩ := idx_some hb.2.2
        have := h2 p ep (get_lt q2) q2
        unfold wkc at this
        rw [if_pos rfl, q3] at this
        simp at this
    exact (back_root ad n c L cur w hA hnc hT hM (by rw [hi, hi0]; rfl)).mono fun r w' h => told0 h
  · have hq : e.sq = ei.pa := by
      unfold wkc at h4
      rw [if_pos rfl] at h4
      simpa using h4
    have hi0 : i ≠ 0 := fun h => by
      subst h
      have := (may_root hM hei).2
      have := ho.ge e (List.mem_of_getElem? h2)
      omega
    rw [wkr_pos h3 h2, if_pos rfl]
    exact back_any ad n c L cur w hA hnc hT hM i j ei e hi hi0 hei (idx_hit hs h2 hq) h2
set_option maxRecDepth 100000 in
set_option maxHeartbeats 4000000 in
theorem pwalk2_any (ad : Addr) (n c : Nat) (L : List NodeS) (cur : Int) (w : World) (hA : Ng w (some ad) n L) (hnc : n ≤ c) (hT : Tabs w) (hM : MayT L cur) (i : Nat) (ei : NodeS) (hi : idx L cur = (i : Nat)) (hei : L[i]? = some ei) :
    Calls Tryd.prog 47 #[treeV (.slice (some ad) n c) cur] w (Told w (wkR 2 L cur ei)) := by
  have ho := ok_ord hM.ok
  have hs := ho.srt
  have hl := hA.len
  have hsq : ei.sq = cur := by
    obtain ⟨j, e, h1, h2, h3⟩ := idx_some hM.cu
    rw [hi] at h1
    have h1 : i = j := by omega
    subst h1
    rw [hei] at h2
    injection h2 with h2
    rw [h2]
    exact h3
  have hin := get_lt hei
  have hgc : 0 ≤ cur := by rw [← hsq]; exact ho.ge _ (List.mem_of_getElem? hei)
  have hcd : ∀ (e : NodeS), wkc 2 cur ei.pa e 0 = (e.pa == cur) := fun e => rfl
  rcases wki_spec3 (y := 2) (.inr (.inl rfl)) (cur := cur) (par := ei.pa) (L := L) L.length (Nat.le_refl _) with ⟨h1, h2⟩ | ⟨j, e, h1, h2, h3, h4, h5⟩
  · rw [wkr_neg (by rw [h1]; decide)]
    exact again_none ad n c L cur w hA hnc hT hM (fun k e' hk he' h => by
      have := h2 k e' (get_lt he') he'
      rw [hcd, h] at this
      simp at this)
  · rw [hcd] at h4
    have hq : e.pa = cur := by simpa using h4
    have hj0 : 0 < j := by
      rcases Nat.eq_zero_or_pos j with h | h
      · subst h
        have := (may_root hM h2).2
        omega
      · exact h
    rw [wkr_pos h3 h2, if_neg (by decide)]
    exact again_any ad n c L cur w hA hnc hT hM j e hj0 h2 hq (fun k e' hk he' h => by
      have := h5 k e' hk (get_lt he') he'
      rw [hcd, h] at this
      simp at this)
set_option maxRecDepth 100000 in
set_option maxHeartbeats 4000000 in
theorem pwalk3_any (ad : Addr) (n c : Nat) (L : List NodeS) (cur : Int) (w : World) (hA : Ng w (some ad) n L) (hnc : n ≤ c) (hT : Tabs w) (hM : MayT L cur) (i : Nat) (ei : NodeS) (hi : idx L cur = (i : Nat)) (hei : L[i]? = some ei) :
    Calls Tryd.prog 50 #[treeV (.slice (some ad) n c) cur] w (Told w (wkR 3 L cur ei)) := by
  have ho := ok_ord hM.ok
  have hs := ho.srt
  have hl := hA.len
  have hsq : ei.sq = cur := by
    obtain ⟨j, e, h1, h2, h3⟩ := idx_some hM.cu
    rw [hi] at h1
    have h1 : i = j := by omega
    subst h1
    rw [hei] at h2
    injection h2 with h2
    rw [h2]
    exact h3
  have hin := get_lt hei
  have hgc : 0 ≤ cur := by rw [← hsq]; exact ho.ge _ (List.mem_of_getElem? hei)
  have hcd : ∀ (e : NodeS), wkc 3 cur ei.pa e 0 = decide (e.sq < cur) := fun e => rfl
  rcases wki_spec3 (y := 3) (.inr (.inr rfl)) (cur := cur) (par := ei.pa) (L := L) L.length (Nat.le_refl _) with ⟨h1, h2⟩ | ⟨j, e, h1, h2, h3, h4, h5⟩
  · rw [wkr_neg (by rw [h1]; decide)]
    have hi0 : i = 0 := by
      by_cases h : i = 0
      · exact h
      · obtain ⟨e, he⟩ : ∃ e, L[i - 1]? = some e := ⟨_, List.getElem?_eq_getElem (by omega)⟩
        have := h2 (i - 1) e (by omega) he
        rw [hcd] at this
        have h3 := hs (i - 1) i e ei he hei (by omega)
        simp at this
        omega
    exact earlier_of (some ad) n c L cur w hA hT (wr0 6) fun W hW hTW => beside_none ad n c L cur W hW hnc hTW hM (-1) i (-1) hi (by omega) (by omega) (by omega) (.inl (by omega))
  · rw [hcd] at h4
    have hq : e.sq < cur := by simpa using h4
    have hji : j < i := by
      rcases Nat.lt_or_ge j i with h | h
      · exact h
      · rcases Nat.eq_or_lt_of_le h with h | h
        · subst h; rw [hei] at h2; injection h2 with h2; subst h2; omega
        · have := hs i j ei e hei h2 h; omega
    have hj1 : j + 1 = i := by
      by_cases h : j + 1 = i
      · exact h
      · obtain ⟨e', he'⟩ : ∃ e', L[j + 1]? = some e' := ⟨_, List.getElem?_eq_getElem (by omega)⟩
        have := h5 (j + 1) e' (by omega) (by omega) he'
        rw [hcd] at this
        have h3 := hs (j + 1) i e' ei he' hei (by omega)
        simp at this
        omega
    rw [wkr_pos h3 h2, if_neg (by decide)]
    exact earlier_of (some ad) n c L cur w hA hT _ fun W hW hTW => beside_any ad n c L cur W hW hnc hTW hM (-1) i j e hi (by omega) h2
set_option maxRecDepth 100000 in
set_option maxHeartbeats 4000000 in
theorem pwalk4_any (ad : Addr) (n c : Nat) (L : List NodeS) (cur : Int) (w : World) (hA : Ng w (some ad) n L) (hnc : n ≤ c) (hT : Tabs w) (hM : MayT L cur) (i : Nat) (ei : NodeS) (hi : idx L cur = (i : Nat)) (hei : L[i]? = some ei) :
    Calls Tryd.prog 51 #[treeV (.slice (some ad) n c) cur] w (Told w (wkR 4 L cur ei)) := by
  have ho := ok_ord hM.ok
  have hs := ho.srt
  have hl := hA.len
  have hsq : ei.sq = cur := by
    obtain ⟨j, e, h1, h2, h3⟩ := idx_some hM.cu
    rw [hi] at h1
    have h1 : i = j := by omega
    subst h1
    rw [hei] at h2
    injection h2 with h2
    rw [h2]
    exact h3
  have hin := get_lt hei
  have hgc : 0 ≤ cur := by rw [← hsq]; exact ho.ge _ (List.mem_of_getElem? hei)
  rcases wki_spec4 (cur := cur) (par := ei.pa) (L := L) L.length (Nat.le_refl _) with ⟨h1, h2⟩ | ⟨j, e, h1, h2, h3, h4, h5⟩
  · rw [wkr_neg (by rw [h1]; decide)]
    have hi0 : n ≤ i + 1 := by
      by_cases h : n ≤ i + 1
      · exact h
      · obtain ⟨e, he⟩ : ∃ e, L[i + 1]? = some e := ⟨_, List.getElem?_eq_getElem (by omega)⟩
        have := h2 (i + 1) e (by omega) he
        have h3 := hs i (i + 1) ei e hei he (by omega)
        omega
    exact later_of (some ad) n c L cur w hA hT (wr0 6) fun W hW hTW => beside_none ad n c L cur W hW hnc hTW hM 1 i (i + 1) hi rfl (by omega) (by omega) (.inr (by omega))
  · have hji : i < j := by
      rcases Nat.lt_or_ge i j with h | h
      · exact h
      · rcases Nat.eq_or_lt_of_le h with h | h
        · subst h; rw [hei] at h2; injection h2 with h2; subst h2; omega
        · have := hs j i e ei h2 hei h; omega
    have hj1 : i + 1 = j := by
      by_cases h : i + 1 = j
      · exact h
      · obtain ⟨e', he'⟩ : ∃ e', L[i + 1]? = some e' := ⟨_, List.getElem?_eq_getElem (by omega)⟩
        have := h5 (i + 1) e' (by omega) he'
        have h3 := hs i (i + 1) ei e' hei he' (by omega)
        omega
    rw [wkr_pos h3 h2, if_neg (by decide)]
    exact later_of (some ad) n c L cur w hA hT _ fun W hW hTW => beside_any ad n c L cur W hW hnc hTW hM 1 i j e hi (by omega) h2
set_option maxRecDepth 100000 in
set_option maxHeartbeats 4000000 in
theorem cform_s (ad : Addr) (n c : Nat) (L : List NodeS) (cur : Int) (s : ByteArray) (at' most : Int) (w : World) (hA : Ng w (some ad) n L) (hnc : n ≤ c) (hT : Tabs w) (hM : MayT L cur) (hsz : s.size ≤ 140737488351232) (hm : mayB s = false) :
    Calls Tryd.prog 43 #[treeV (.slice (some ad) n c) cur, .string s, .int .i64 at', .int .i64 most] w fun r w' => r = .returned (.tuple #[treeV (.slice none 0 0) 0, .int .i64 1]) ∧ Kept (fun _ => False) w w' := by
  have hl := hA.len
  have hle := hM.le
  have hge := hM.ge
  rw [hl] at hle hge
  have HK0 : Hid (Kept (fun _ => False) w ((w.alloc (treeO (.slice (some ad) n c) cur)).alloc nilT)) := ((Kept.refl _ w).alloc _).alloc _
  have HI0 := Lib.hid (tri_new (c := c) (cur := cur) hT hA (by omega))
  have cC := fun W (h : TrI ad n c L cur w.heap.size W) => tcheck_ok (some ad) n c L cur W h.ng hnc h.tabs hM
  have cS := fun W (h : Tabs W) => check_any s W (by omega) h
  rw [hm, if_neg (by decide)] at cS
  obtain ⟨tb, htb⟩ : ∃ tb, w.heap.size = tb := ⟨_, rfl⟩
  have HTB := Lib.hid htb
  rw [htb] at HI0 cC
  have HHL := Lib.hid hl
  clear htb hA hT hM hl hm
  go_enter Tryd.func43, Tryd.ntmps43
  go_upto_region 1 with fail
  simp only [HTB.out]
  simp only [treeO, nilT] at HI0 HK0
  generalize (w.alloc _).alloc _ = w0 at *
  obtain ⟨t0, t1⟩ := HI0.out.cells
  have cC0 := cC w0 HI0.out
  go_upto_region 2 with (first
    | (go_at_call 59; refine cC0.mono ?_; rintro r w1 ⟨rfl, hk1⟩; have HK1 := Lib.hid (HK0.out.trans hk1); have HI1 := Lib.hid (HI0.out.kept hk1); clear hk1 t0 t1 cC0 cC)
    | (go_at_call 48; refine (cS _ HI1.out.tabs).mono ?_; rintro r w2 ⟨rfl, hk2⟩; have HK2 := Lib.hid (HK1.out.trans hk2); have HI2 := Lib.hid (HI1.out.kept hk2); clear hk2 cS))
  obtain ⟨r0, r1, r2, r3⟩ := tree_facts HI2.out.res
  go_wp2_with fail
  refine bodyPost_ret (res_t1 rfl _ _ (tb + 1) (.slice none 0 0) 0 rfl rfl (tree_set HI2.out.res _ _)) rfl ⟨rfl, ?_⟩
  exact HK2.out.fresh (Kept.tree (g := tb + 1) (S := fun q => q = tb + 1) (Kept.refl (fun q => q = tb + 1) w2) rfl _ _) (fun b hb h => by have := HTB.out; omega)
set_option maxRecDepth 100000 in
set_option maxHeartbeats 4000000 in
theorem cform_a1 (ad : Addr) (n c : Nat) (L : List NodeS) (cur : Int) (s : ByteArray) (at' most : Int) (w : World) (hA : Ng w (some ad) n L) (hnc : n ≤ c) (hT : Tabs w) (hM : MayT L cur) (hsz : s.size ≤ 140737488351232) (hm : mayB s = true) (h1 : at' < 0) :
    Calls Tryd.prog 43 #[treeV (.slice (some ad) n c) cur, .string s, .int .i64 at', .int .i64 most] w fun r w' => r = .returned (.tuple #[treeV (.slice none 0 0) 0, .int .i64 1]) ∧ Kept (fun _ => False) w w' := by
  have hl := hA.len
  have hle := hM.le
  have hge := hM.ge
  rw [hl] at hle hge
  have HK0 : Hid (Kept (fun _ => False) w ((w.alloc (treeO (.slice (some ad) n c) cur)).alloc nilT)) := ((Kept.refl _ w).alloc _).alloc _
  have HI0 := Lib.hid (tri_new (c := c) (cur := cur) hT hA (by omega))
  have cC := fun W (h : TrI ad n c L cur w.heap.size W) => tcheck_ok (some ad) n c L cur W h.ng hnc h.tabs hM
  have cS := fun W (h : Tabs W) => check_any s W (by omega) h
  rw [if_pos hm] at cS
  obtain ⟨tb, htb⟩ : ∃ tb, w.heap.size = tb := ⟨_, rfl⟩
  have HTB := Lib.hid htb
  rw [htb] at HI0 cC
  have HHL := Lib.hid hl
  clear htb hA hT hM hl hm
  have b1 : decide (at' < 0) = true := decide_eq_true h1
  go_enter Tryd.func43, Tryd.ntmps43
  go_upto_region 1 with fail
  simp only [HTB.out]
  simp only [treeO, nilT] at HI0 HK0
  generalize (w.alloc _).alloc _ = w0 at *
  obtain ⟨t0, t1⟩ := HI0.out.cells
  have cC0 := cC w0 HI0.out
  go_upto_region 2 with (first
    | (go_at_call 59; refine cC0.mono ?_; rintro r w1 ⟨rfl, hk1⟩; have HK1 := Lib.hid (HK0.out.trans hk1); have HI1 := Lib.hid (HI0.out.kept hk1); clear hk1 t0 t1 cC0 cC)
    | (go_at_call 48; refine (cS _ HI1.out.tabs).mono ?_; rintro r w2 ⟨rfl, hk2⟩; have HK2 := Lib.hid (HK1.out.trans hk2); have HI2 := Lib.hid (HI1.out.kept hk2); clear hk2 cS))
  obtain ⟨r0, r1, r2, r3⟩ := tree_facts HI2.out.res
  go_wp2_with fail
  refine bodyPost_ret (res_t1 rfl _ _ (tb + 1) (.slice none 0 0) 0 rfl rfl (tree_set HI2.out.res _ _)) rfl ⟨rfl, ?_⟩
  exact HK2.out.fresh (Kept.tree (g := tb + 1) (S := fun q => q = tb + 1) (Kept.refl (fun q => q = tb + 1) w2) rfl _ _) (fun b hb h => by have := HTB.out; omega)
set_option maxRecDepth 100000 in
set_option maxHeartbeats 4000000 in
theorem cform_a2 (ad : Addr) (n c : Nat) (L : List NodeS) (cur : Int) (s : ByteArray) (at' most : Int) (w : World) (hA : Ng w (some ad) n L) (hnc : n ≤ c) (hT : Tabs w) (hM : MayT L cur) (hsz : s.size ≤ 140737488351232) (hm : mayB s = true) (h1 : ¬ at' < 0) (h2 : 4000 < at') :
    Calls Tryd.prog 43 #[treeV (.slice (some ad) n c) cur, .string s, .int .i64 at', .int .i64 most] w fun r w' => r = .returned (.tuple #[treeV (.slice none 0 0) 0, .int .i64 1]) ∧ Kept (fun _ => False) w w' := by
  have hl := hA.len
  have hle := hM.le
  have hge := hM.ge
  rw [hl] at hle hge
  have HK0 : Hid (Kept (fun _ => False) w ((w.alloc (treeO (.slice (some ad) n c) cur)).alloc nilT)) := ((Kept.refl _ w).alloc _).alloc _
  have HI0 := Lib.hid (tri_new (c := c) (cur := cur) hT hA (by omega))
  have cC := fun W (h : TrI ad n c L cur w.heap.size W) => tcheck_ok (some ad) n c L cur W h.ng hnc h.tabs hM
  have cS := fun W (h : Tabs W) => check_any s W (by omega) h
  rw [if_pos hm] at cS
  obtain ⟨tb, htb⟩ : ∃ tb, w.heap.size = tb := ⟨_, rfl⟩
  have HTB := Lib.hid htb
  rw [htb] at HI0 cC
  have HHL := Lib.hid hl
  clear htb hA hT hM hl hm
  have b1 : decide (at' < 0) = false := decide_eq_false h1
  have b2 : decide (4000 < at') = true := decide_eq_true h2
  go_enter Tryd.func43, Tryd.ntmps43
  go_upto_region 1 with fail
  simp only [HTB.out]
  simp only [treeO, nilT] at HI0 HK0
  generalize (w.alloc _).alloc _ = w0 at *
  obtain ⟨t0, t1⟩ := HI0.out.cells
  have cC0 := cC w0 HI0.out
  go_upto_region 2 with (first
    | (go_at_call 59; refine cC0.mono ?_; rintro r w1 ⟨rfl, hk1⟩; have HK1 := Lib.hid (HK0.out.trans hk1); have HI1 := Lib.hid (HI0.out.kept hk1); clear hk1 t0 t1 cC0 cC)
    | (go_at_call 48; refine (cS _ HI1.out.tabs).mono ?_; rintro r w2 ⟨rfl, hk2⟩; have HK2 := Lib.hid (HK1.out.trans hk2); have HI2 := Lib.hid (HI1.out.kept hk2); clear hk2 cS))
  obtain ⟨r0, r1, r2, r3⟩ := tree_facts HI2.out.res
  go_wp2_with fail
  refine bodyPost_ret (res_t1 rfl _ _ (tb + 1) (.slice none 0 0) 0 rfl rfl (tree_set HI2.out.res _ _)) rfl ⟨rfl, ?_⟩
  exact HK2.out.fresh (Kept.tree (g := tb + 1) (S := fun q => q = tb + 1) (Kept.refl (fun q => q = tb + 1) w2) rfl _ _) (fun b hb h => by have := HTB.out; omega)
set_option maxRecDepth 100000 in
set_option maxHeartbeats 4000000 in
theorem cform_m1 (ad : Addr) (n c : Nat) (L : List NodeS) (cur : Int) (s : ByteArray) (at' most : Int) (w : World) (hA : Ng w (some ad) n L) (hnc : n ≤ c) (hT : Tabs w) (hM : MayT L cur) (hsz : s.size ≤ 140737488351232) (hm : mayB s = true) (h1 : ¬ at' < 0) (h2 : ¬ 4000 < at') (h3 : most < 2) :
    Calls Tryd.prog 43 #[treeV (.slice (some ad) n c) cur, .string s, .int .i64 at', .int .i64 most] w fun r w' => r = .returned (.tuple #[treeV (.slice none 0 0) 0, .int .i64 1]) ∧ Kept (fun _ => False) w w' := by
  have hl := hA.len
  have hle := hM.le
  have hge := hM.ge
  rw [hl] at hle hge
  have HK0 : Hid (Kept (fun _ => False) w ((w.alloc (treeO (.slice (some ad) n c) cur)).alloc nilT)) := ((Kept.refl _ w).alloc _).alloc _
  have HI0 := Lib.hid (tri_new (c := c) (cur := cur) hT hA (by omega))
  have cC := fun W (h : TrI ad n c L cur w.heap.size W) => tcheck_ok (some ad) n c L cur W h.ng hnc h.tabs hM
  have cS := fun W (h : Tabs W) => check_any s W (by omega) h
  rw [if_pos hm] at cS
  obtain ⟨tb, htb⟩ : ∃ tb, w.heap.size = tb := ⟨_, rfl⟩
  have HTB := Lib.hid htb
  rw [htb] at HI0 cC
  have HHL := Lib.hid hl
  clear htb hA hT hM hl hm
  have b1 : decide (at' < 0) = false := decide_eq_false h1
  have b2 : decide (4000 < at') = false := decide_eq_false h2
  have b3 : decide (most < 2) = true := decide_eq_true h3
  go_enter Tryd.func43, Tryd.ntmps43
  go_upto_region 1 with fail
  simp only [HTB.out]
  simp only [treeO, nilT] at HI0 HK0
  generalize (w.alloc _).alloc _ = w0 at *
  obtain ⟨t0, t1⟩ := HI0.out.cells
  have cC0 := cC w0 HI0.out
  go_upto_region 2 with (first
    | (go_at_call 59; refine cC0.mono ?_; rintro r w1 ⟨rfl, hk1⟩; have HK1 := Lib.hid (HK0.out.trans hk1); have HI1 := Lib.hid (HI0.out.kept hk1); clear hk1 t0 t1 cC0 cC)
    | (go_at_call 48; refine (cS _ HI1.out.tabs).mono ?_; rintro r w2 ⟨rfl, hk2⟩; have HK2 := Lib.hid (HK1.out.trans hk2); have HI2 := Lib.hid (HI1.out.kept hk2); clear hk2 cS))
  obtain ⟨r0, r1, r2, r3⟩ := tree_facts HI2.out.res
  go_wp2_with fail
  refine bodyPost_ret (res_t1 rfl _ _ (tb + 1) (.slice none 0 0) 0 rfl rfl (tree_set HI2.out.res _ _)) rfl ⟨rfl, ?_⟩
  exact HK2.out.fresh (Kept.tree (g := tb + 1) (S := fun q => q = tb + 1) (Kept.refl (fun q => q = tb + 1) w2) rfl _ _) (fun b hb h => by have := HTB.out; omega)
set_option maxRecDepth 100000 in
set_option maxHeartbeats 4000000 in
theorem cform_m2 (ad : Addr) (n c : Nat) (L : List NodeS) (cur : Int) (s : ByteArray) (at' most : Int) (w : World) (hA : Ng w (some ad) n L) (hnc : n ≤ c) (hT : Tabs w) (hM : MayT L cur) (hsz : s.size ≤ 140737488351232) (hm : mayB s = true) (h1 : ¬ at' < 0) (h2 : ¬ 4000 < at') (h3 : ¬ most < 2) (h4 : 64 < most) :
    Calls Tryd.prog 43 #[treeV (.slice (some ad) n c) cur, .string s, .int .i64 at', .int .i64 most] w fun r w' => r = .returned (.tuple #[treeV (.slice none 0 0) 0, .int .i64 1]) ∧ Kept (fun _ => False) w w' := by
  have hl := hA.len
  have hle := hM.le
  have hge := hM.ge
  rw [hl] at hle hge
  have HK0 : Hid (Kept (fun _ => False) w ((w.alloc (treeO (.slice (some ad) n c) cur)).alloc nilT)) := ((Kept.refl _ w).alloc _).alloc _
  have HI0 := Lib.hid (tri_new (c := c) (cur := cur) hT hA (by omega))
  have cC := fun W (h : TrI ad n c L cur w.heap.size W) => tcheck_ok (some ad) n c L cur W h.ng hnc h.tabs hM
  have cS := fun W (h : Tabs W) => check_any s W (by omega) h
  rw [if_pos hm] at cS
  obtain ⟨tb, htb⟩ : ∃ tb, w.heap.size = tb := ⟨_, rfl⟩
  have HTB := Lib.hid htb
  rw [htb] at HI0 cC
  have HHL := Lib.hid hl
  clear htb hA hT hM hl hm
  have b1 : decide (at' < 0) = false := decide_eq_false h1
  have b2 : decide (4000 < at') = false := decide_eq_false h2
  have b3 : decide (most < 2) = false := decide_eq_false h3
  have b4 : decide (64 < most) = true := decide_eq_true h4
  go_enter Tryd.func43, Tryd.ntmps43
  go_upto_region 1 with fail
  simp only [HTB.out]
  simp only [treeO, nilT] at HI0 HK0
  generalize (w.alloc _).alloc _ = w0 at *
  obtain ⟨t0, t1⟩ := HI0.out.cells
  have cC0 := cC w0 HI0.out
  go_upto_region 2 with (first
    | (go_at_call 59; refine cC0.mono ?_; rintro r w1 ⟨rfl, hk1⟩; have HK1 := Lib.hid (HK0.out.trans hk1); have HI1 := Lib.hid (HI0.out.kept hk1); clear hk1 t0 t1 cC0 cC)
    | (go_at_call 48; refine (cS _ HI1.out.tabs).mono ?_; rintro r w2 ⟨rfl, hk2⟩; have HK2 := Lib.hid (HK1.out.trans hk2); have HI2 := Lib.hid (HI1.out.kept hk2); clear hk2 cS))
  obtain ⟨r0, r1, r2, r3⟩ := tree_facts HI2.out.res
  go_wp2_with fail
  refine bodyPost_ret (res_t1 rfl _ _ (tb + 1) (.slice none 0 0) 0 rfl rfl (tree_set HI2.out.res _ _)) rfl ⟨rfl, ?_⟩
  exact HK2.out.fresh (Kept.tree (g := tb + 1) (S := fun q => q = tb + 1) (Kept.refl (fun q => q = tb + 1) w2) rfl _ _) (fun b hb h => by have := HTB.out; omega)
set_option maxRecDepth 100000 in
set_option maxHeartbeats 4000000 in
theorem commit_form (ad : Addr) (n c : Nat) (L : List NodeS) (cur : Int) (s : ByteArray) (at' most : Int) (w : World) (hA : Ng w (some ad) n L) (hnc : n ≤ c) (hT : Tabs w) (hM : MayT L cur) (hsz : s.size ≤ 140737488351232) (hno : ¬ (mayB s = true ∧ (0 ≤ at' ∧ at' ≤ 4000) ∧ (2 ≤ most ∧ most ≤ 64))) :
    Calls Tryd.prog 43 #[treeV (.slice (some ad) n c) cur, .string s, .int .i64 at', .int .i64 most] w fun r w' => r = .returned (.tuple #[treeV (.slice none 0 0) 0, .int .i64 1]) ∧ Kept (fun _ => False) w w' := by
  cases hm : mayB s with
  | false => exact cform_s ad n c L cur s at' most w hA hnc hT hM hsz hm
  | true =>
    by_cases h1 : at' < 0
    · exact cform_a1 ad n c L cur s at' most w hA hnc hT hM hsz hm h1
    · by_cases h2 : 4000 < at'
      · exact cform_a2 ad n c L cur s at' most w hA hnc hT hM hsz hm h1 h2
      · by_cases h3 : most < 2
        · exact cform_m1 ad n c L cur s at' most w hA hnc hT hM hsz hm h1 h2 h3
        · by_cases h4 : 64 < most
          · exact cform_m2 ad n c L cur s at' most w hA hnc hT hM hsz hm h1 h2 h3 h4
          · exact absurd ⟨hm, ⟨by omega, by omega⟩, by omega, by omega⟩ hno
set_option maxRecDepth 100000 in
set_option maxHeartbeats 4000000 in
theorem commit_full (ad : Addr) (n c : Nat) (L : List NodeS) (cur : Int) (s : ByteArray) (at' most : Int) (w : World) (hA : Ng w (some ad) n L) (hnc : n ≤ c) (hT : Tabs w) (hM : MayT L cur) (hsz : s.size ≤ 140737488351232) (hm : mayB s = true) (ha : 0 ≤ at' ∧ at' ≤ 4000) (hmo : 2 ≤ most ∧ most ≤ 64) (l : NodeS) (hlast : L.getLast? = some l) (hsq : l.sq = 1073741824) :
    Calls Tryd.prog 43 #[treeV (.slice (some ad) n c) cur, .string s, .int .i64 at', .int .i64 most] w fun r w' => r = .returned (.tuple #[treeV (.slice none 0 0) 0, .int .i64 4]) ∧ Kept (fun _ => False) w w' := by
  have hl := hA.len
  have hle := hM.le
  have hge := hM.ge
  rw [hl] at hle hge
  have HK0 : Hid (Kept (fun _ => False) w ((w.alloc (treeO (.slice (some ad) n c) cur)).alloc nilT)) := ((Kept.refl _ w).alloc _).alloc _
  have HI0 := Lib.hid (tri_new (c := c) (cur := cur) hT hA (by omega))
  have cC := fun W (h : TrI ad n c L cur w.heap.size W) => tcheck_ok (some ad) n c L cur W h.ng hnc h.tabs hM
  have cS := fun W (h : Tabs W) => check_any s W (by omega) h
  rw [if_pos hm] at cS
  obtain ⟨k, hk⟩ : ∃ k, n = k + 1 := ⟨n - 1, by omega⟩
  have hlk : L[k]? = some l := by rw [List.getLast?_eq_getElem?, show L.length - 1 = k by omega] at hlast; exact hlast
  have HLK := Lib.hid hlk
  obtain ⟨tb, htb⟩ : ∃ tb, w.heap.size = tb := ⟨_, rfl⟩
  have HTB := Lib.hid htb
  rw [htb] at HI0 cC
  have HHL := Lib.hid hl
  have b1 : decide (at' < 0) = false := decide_eq_false (by omega)
  have b2 : decide (4000 < at') = false := decide_eq_false (by omega)
  have b3 : decide (most < 2) = false := decide_eq_false (by omega)
  have b4 : decide (64 < most) = false := decide_eq_false (by omega)
  have w1_ : IntKind.i64.wrap ((n : Int) - 1) = (k : Int) := by rw [show (n : Int) - 1 = (k : Int) by omega]; exact IntWalk.i64_in _ ⟨by omega, by omega⟩
  have b5 : (0 : Int) ≤ (k : Int) := by omega
  have b6 : (k : Int) < (n : Int) := by omega
  have q7 : (l.sq == 1073741824) = true := by rw [hsq]; rfl
  clear htb hA hT hM hl hm hk hlast hlk
  go_enter Tryd.func43, Tryd.ntmps43
  go_upto_region 1 with fail
  simp only [HTB.out]
  simp only [treeO, nilT] at HI0 HK0
  generalize (w.alloc _).alloc _ = w0 at *
  obtain ⟨t0, t1⟩ := HI0.out.cells
  have cC0 := cC w0 HI0.out
  go_upto_region 3 with (first
    | (go_at_call 59; refine cC0.mono ?_; rintro r w1 ⟨rfl, hk1⟩; have HK1 := Lib.hid (HK0.out.trans hk1); have HI1 := Lib.hid (HI0.out.kept hk1); clear hk1 t0 t1 cC0 cC)
    | (go_at_call 48; refine (cS _ HI1.out.tabs).mono ?_; rintro r w2 ⟨rfl, hk2⟩; have HK2 := Lib.hid (HK1.out.trans hk2); have HI2 := Lib.hid (HI1.out.kept hk2); clear hk2 cS))
  obtain ⟨t0, t1⟩ := HI2.out.cells
  have f0 := (HI2.out.ng.nd HLK.out).2.c0
  obtain ⟨r0, r1, r2, r3⟩ := tree_facts HI2.out.res
  clear b1 b2 b3 b4
  go_wp2_with fail
  refine bodyPost_ret (res_t1 rfl _ _ (tb + 1) (.slice none 0 0) 0 rfl rfl (tree_set HI2.out.res _ _)) rfl ⟨rfl, ?_⟩
  exact HK2.out.fresh (Kept.tree (g := tb + 1) (S := fun q => q = tb + 1) (Kept.refl (fun q => q = tb + 1) w2) rfl _ _) (fun b hb h => by have := HTB.out; omega)
end Go.Proofs.YthbfmdnibijapaaDoor
namespace Go.Proofs.YthbfmdnibijapaaDoor
open Go Go.RowKit

/-- A map lies there. -/
def MapAt (W : World) (q : Nat) : Prop := ∃ es cl, W.heap[q]? = some (.map es cl)
theorem hx_to {B most hb : Nat} {L : List NodeS} {cur k : Int} {W : World} (h : Hx B most hb L cur k W) (hk : 0 ≤ k ∧ k ≤ 1000000) {j : Nat} {f : NodeS} (hf : L[j]? = some f) (w1 : World) (hw : Kept (fun _ => False) W w1) (v : Value) (hv : On w1 W.heap.size v (blank L)) (s' : ByteArray) (at' : Int) :
    Calls Tryd.prog 45 #[.pointer (some ⟨hb, 0, none⟩), treeV v f.sq, .string s', .int .i64 at', .int .i64 0] w1 fun r w' => r = .returned (.tuple #[.string f.tx, .int .i64 at', .int .i64 0]) ∧ (∃ U D, Way (treeG L) cur f.sq U D ∧ U.length + D.length ≤ 126 ∧ Hx B most hb L f.sq (k + ((U.length + D.length : Nat) : Int)) w') ∧ Kept (fun q => q = hb) w1 w' := by
  obtain ⟨ad, cp, mb, kv, hq, hcp, hmb, hkv, hno⟩ := h.q
  have hle := h.tr.le
  obtain ⟨i, e, hi, he, hes⟩ := idx_some (L := L) (z := cur) (by have := h.mt.cu; rw [blank_idx] at this; exact this)
  obtain ⟨U, D, Q, h1, h2, h3, h4, h5, h6⟩ := way_ex h.tr (i + j) i j e f rfl he hf
  have hil := get_lt he
  have hjl := get_lt hf
  have htx : txAt L cur = e.tx := by rw [← hes]; exact txAt_eq h.tr he
  have htf : txAt L f.sq = f.tx := txAt_eq h.tr hf
  rw [hes] at h1
  obtain ⟨A', c', rfl, hN, hc, hno'⟩ := hv.slice
  have hq1 := hq.kept hw
  have hcu : 0 ≤ cur := by rw [← hes]; exact h.tr.ord.ge e (List.mem_of_getElem? he)
  have hcf : 0 ≤ f.sq := h.tr.ord.ge f (List.mem_of_getElem? hf)
  have hlt := heap_lt hq.box
  refine (hto_gen A' (blank L).length c' f.sq at' s' f.tx Q (treeG L) U D w1 hq1 hle (treeG_good h.tr h.mt hkv) h1 (by omega) (by omega) hcu hcf (by rw [h2, htx]) (by omega) (by
    intro t ht
    rw [htx] at ht
    rcases List.mem_cons.1 ht with ht | ht
    · rw [ht]; exact h.tr.may e (List.mem_of_getElem? he)
    · exact h4 t ht) (by rw [htx]; exact h3) hk).mono ?_
  rintro r w' ⟨rfl, hB, hk'⟩
  have hv2 := hv.keptS hk' (fun q hq' (e : q = hb) => by omega)
  obtain ⟨A2, c2, e2, hN2, hc2, hno2⟩ := hv2.slice
  injection e2 with e2 _ e3
  subst e2
  subst e3
  have hlo := hq.lo
  have hge := h.mt.ge
  refine ⟨rfl, ⟨U, D, h1, by omega, ?_⟩, hk'⟩
  cases A' with
  | none => exact absurd (hno2 rfl).1 (by omega)
  | some a1 =>
    rw [h5] at hB
    rw [blank_len] at hB hN2 hc2
    refine ⟨⟨a1, c', mb, kv, ⟨hq1.tabs.kept hk' (by omega) (by omega), by rw [htf]; exact hB, hN2, hq1.mp.kept hk' (fun e => by
      obtain ⟨es, cl, hm, _⟩ := hq.mp
      rw [e, hq.box] at hm
      cases hm), hlo⟩, hc2, hmb, hkv, hno⟩, h.tr, ⟨h.mt.ge, h.mt.le, h.mt.ok, ?_⟩, h.lo⟩
    rw [blank_idx, idx_hit h.tr.ord.srt hf rfl]
    omega
/-- What a way of a history tells. -/
def HxTold (B most hb : Nat) (L : List NodeS) (cur k : Int) (W : World) (D : WR) (r : Ending) (w' : World) : Prop :=
  (D.er = 0 ∧ r = .returned (.tuple #[.string D.tx, .int .i64 D.at_, .int .i64 0]) ∧ (∃ U Dn, Way (treeG L) cur D.cu U Dn ∧ U.length + Dn.length ≤ 126 ∧ Hx B most hb L D.cu (k + ((U.length + Dn.length : Nat) : Int)) w') ∧ Kept (fun q => q = hb) W w') ∨
  (D.er ≠ 0 ∧ r = .returned (.tuple #[.string ⟨#[]⟩, .int .i64 0, .int .i64 D.er]) ∧ Kept (fun _ => False) W w')
/-- What undo tells of the blank tree, led to by 'to'. -/
theorem hx_led {B most hb : Nat} {L : List NodeS} {cur k : Int} {W : World} (h : Hx B most hb L cur k W) (hk : 0 ≤ k ∧ k ≤ 1000000) (D E : WR) (hE : (D.er = 0 ∧ ∃ (j : Nat) (f : NodeS), L[j]? = some f ∧ D = ⟨L, f.sq, f.tx, D.at_, 0⟩ ∧ E = ⟨blank L, f.sq, ⟨#[]⟩, D.at_, 0⟩) ∨ (D.er ≠ 0 ∧ E = wr0 D.er)) :
    ∀ (r1 : Ending) (w1 : World), Told W E r1 w1 → ∃ v cu s a er, r1 = .returned (.tuple #[treeV v cu, .string s, .int .i64 a, .int .i64 er]) ∧ Kept (fun _ => False) W w1 ∧ Calls Tryd.prog 45 #[.pointer (some ⟨hb, 0, none⟩), treeV v cu, .string s, .int .i64 a, .int .i64 er] w1 (fun r w' => HxTold B most hb L cur k W D r w') := by
  rintro r1 w1 ⟨⟨v, rfl, hO⟩, hk1⟩
  refine ⟨v, _, _, _, _, rfl, hk1, ?_⟩
  rcases hE with ⟨h0, j, f, hf, hD, rfl⟩ | ⟨h0, rfl⟩
  · refine (hx_to h hk hf w1 hk1 v hO ⟨#[]⟩ D.at_).mono ?_
    rintro r w' ⟨rfl, h2, h3⟩
    refine .inl ⟨h0, ?_, ?_, hk1.any.trans h3⟩
    · rw [hD]
    · rw [hD]; exact h2
  · refine (hto_err (hb := hb) v 0 0 D.er ⟨#[]⟩ w1 h0).mono ?_
    rintro r w' ⟨rfl, h2⟩
    exact .inr ⟨h0, rfl, hk1.trans h2⟩
end Go.Proofs.YthbfmdnibijapaaDoor
