/-
  THE LAW's step, whatever act.
-/
import Derived.Test.YtgehjkbcgcpbnaaDoorUoB
set_option linter.unusedVariables false
namespace Go.Proofs.YtgehjkbcgcpbnaaDoor
open Go Go.RowKit

theorem within_eq (x : Int) : ∃ k : Nat, k < 10 ∧ ∀ W : World, Calls Tryd.prog 21 #[.int .i64 x, .int .i64 10] W fun r W' => r = .returned (.int .i64 k) ∧ W' = W := by
  obtain ⟨q, hq, hq0⟩ : ∃ q, IntKind.u64.wrap x = q ∧ 0 ≤ q := ⟨_, rfl, by simp [IntKind.wrap, IntKind.bits, IntKind.signed]; omega⟩
  have e2 : q.tmod 10 = q % 10 := by rw [Int.tmod_eq_emod_of_nonneg hq0]
  obtain ⟨k, hk⟩ : ∃ k : Nat, q % 10 = (k : Int) := ⟨(q % 10).toNat, by have := Int.emod_nonneg q (show (10 : Int) ≠ 0 by omega); omega⟩
  have hlt : (k : Int) < 10 := by rw [← hk]; exact Int.emod_lt_of_pos q (by omega)
  refine ⟨k, by omega, fun w => ?_⟩
  have e1 : IntKind.u64.wrap 10 = 10 := IntWalk.u64_in 10 ⟨by omega, by omega⟩
  have e4 : IntKind.u64.wrap (k : Int) = (k : Int) := IntWalk.u64_in _ ⟨by omega, by omega⟩
  have HK := Lib.hid hk
  clear hk
  go_enter Tryd.func21, Tryd.ntmps21
  go_wp2
  go_ret
  refine ⟨?_, rfl⟩
  show Ending.returned (.int .i64 (q % 10)) = _
  rw [HK.out]
/-- Sizes that all may have. -/
def OkS (L : List NodeS) : Prop := L.length ≤ 100000 ∧ ∀ e ∈ L, e.tx.size ≤ 140737488351232
theorem oks_nil : OkS [] := ⟨by decide, fun e h => by cases h⟩
theorem may_oks {L : List NodeS} {cur : Int} (hM : MayT L cur) : OkS L := by
  refine ⟨by have := hM.le; omega, fun e he => ?_⟩
  obtain ⟨i, hi, rfl⟩ := List.getElem_of_mem he
  have h := (hM.ok i _ (List.getElem?_eq_getElem hi)).2.2.2
  have := mayB_size h
  omega
theorem prn_tx {L : List NodeS} {cur : Int} : ∀ e ∈ (prn L cur).1, ∃ e' ∈ L, e.tx = e'.tx := by
  intro e he
  unfold prn at he
  split at he
  · match L, he with
    | [], he => exact ⟨e, he, rfl⟩
    | [x], he => exact ⟨e, he, rfl⟩
    | r :: c :: rest, he =>
      have he2 : e ∈ (({ c with sq := 0, pa := -1 } : NodeS) :: rest).map (rp c.sq) := he
      obtain ⟨x, hx, rfl⟩ := List.mem_map.1 he2
      have hr : ∀ y : NodeS, (rp c.sq y).tx = y.tx := fun y => by unfold rp; split <;> rfl
      rw [hr]
      rcases List.mem_cons.1 hx with rfl | hx
      · exact ⟨c, by simp, rfl⟩
      · exact ⟨x, by simp [hx], rfl⟩
  · exact ⟨e, (List.eraseIdx_sublist ..).subset he, rfl⟩
theorem prI_tx {p : List NodeS × Int} : ∀ (j : Nat), ∀ e ∈ (prI j p).1, ∃ e' ∈ p.1, e.tx = e'.tx
  | 0 => fun e he => ⟨e, he, rfl⟩
  | j + 1 => fun e he => by
    obtain ⟨e1, h1, h2⟩ := prn_tx e he
    obtain ⟨e2, h3, h4⟩ := prI_tx j e1 h1
    exact ⟨e2, h3, h2.trans h4⟩
theorem cmt_oks {L : List NodeS} {cur z : Int} {s : ByteArray} {a : Int} {m : Nat} (h : OkS L) (hl : 1 ≤ L.length) (hl2 : L.length ≤ 64) (hs : s.size ≤ 140737488351232) (hm : 2 ≤ m) : OkS (cmt L cur z s a m).1 := by
  refine ⟨?_, fun e he => ?_⟩
  · have h2 := prI_len (p := (L ++ [⟨z + 1, cur, a, s⟩], z + 1)) (j := L.length + 1 - m) (by simp; omega)
    simp only [List.length_append, List.length_singleton] at h2
    unfold cmt
    omega
  · obtain ⟨e', h1, h2⟩ := prI_tx _ e he
    rw [h2]
    rcases List.mem_append.1 h1 with h3 | h3
    · exact h.2 _ h3
    · rw [List.mem_singleton] at h3; subst h3; exact hs
theorem may_some {A : Option Addr} {n : Nat} {L : List NodeS} {cur : Int} {W : World} (hA : Ng W A n L) (hM : MayT L cur) : ∃ ad, A = some ad := by
  obtain ⟨ad, _, h, _⟩ := hA.at_ (k := 0) (by have := hM.ge; have := hA.len; omega)
  exact ⟨ad, h⟩
theorem toldc {w w' : World} {r : Ending} {er : Int} (h : r = .returned (.tuple #[treeV (.slice none 0 0) 0, .int .i64 er]) ∧ Kept (fun _ => False) w w') : ToldC w (wr0 er) r w' := ⟨⟨_, h.1, on_nil _ _⟩, h.2⟩
theorem tr_yes {L : List NodeS} {cur : Int} (hg : OkS L) (hM : MayT L cur) {A : Option Addr} {n c : Nat} (hnc : n ≤ c) : ∀ W, Ng W A n L → Tabs W → Calls Tryd.prog 9 #[treeV (.slice A n c) cur] W fun r W' => r = .returned (.bool true) ∧ Kept (fun _ => False) W W' := fun W hN hT =>
  (rtree_any A n c L cur W hN hnc hT hg.2).mono fun r W' ⟨⟨B, h1, h2⟩, h3⟩ => ⟨by rw [h1, h2.2 hM], h3⟩
theorem tr_no {L : List NodeS} {cur : Int} (hg : OkS L) (hM : ¬ MayT L cur) {A : Option Addr} {n c : Nat} (hnc : n ≤ c) : ∀ W, Ng W A n L → Tabs W → Calls Tryd.prog 9 #[treeV (.slice A n c) cur] W fun r W' => r = .returned (.bool false) ∧ Kept (fun _ => False) W W' := fun W hN hT =>
  (rtree_any A n c L cur W hN hnc hT hg.2).mono fun r W' ⟨⟨B, h1, h2⟩, h3⟩ => ⟨by
    rw [h1]
    cases B with
    | false => rfl
    | true => exact absurd (h2.1 rfl) hM, h3⟩
/-- A step, in all the worlds that hold the tree. -/
def StepD (L : List NodeS) (cur : Int) (a : NodeS) (D : WR) : Prop := ∀ (A : Option Addr) (n c : Nat) (w : World), Ng w A n L → n ≤ c → (∀ ad, A = some ad → ad.block < w.heap.size) → Tabs w → (A = none → n = 0 ∧ c = 0) →
  Calls Tryd.prog 16 #[treeV (.slice A n c) cur, actV a] w (ToldS A n c cur w D)
set_option maxRecDepth 100000 in
set_option maxHeartbeats 4000000 in
theorem stepd_w1 (L : List NodeS) (cur : Int) (a : NodeS) (hg : OkS L) (hk : ∀ W : World, Calls Tryd.prog 21 #[.int .i64 a.sq, .int .i64 10] W fun r W' => r = .returned (.int .i64 5) ∧ W' = W) : ∃ D, OkS D.ns ∧ StepD L cur a D := by
  by_cases hM : MayT L cur
  · obtain ⟨i, ei, hi, hei, _, _⟩ := may_cur hM
    refine ⟨wkR 1 L cur ei, ?_, fun A n c w hA hnc hAl hT hAN => ?_⟩
    · unfold wkR
      split
      · split
        · exact oks_nil
        · exact hg
      · exact oks_nil
    · have hok : OkS (wkR 1 L cur ei).ns := by
        unfold wkR
        split
        · split
          · exact oks_nil
          · exact hg
        · exact oks_nil
      refine step_w1 A n c L cur a w hA hnc hAl hT hg.1 true _ hok.1 (tr_yes hg hM hnc) hAN (fun A' c' W hN hc hTW => walk1_of A' n c' L cur W hN hTW _ fun W' hN' hT' => ?_) (fun _ W hN hTW => ?_) (fun h => by cases h) hk
      · obtain ⟨ad, rfl⟩ := may_some hN' hM
        exact pwalk1_any ad n c' L cur W' hN' hc hT' hM i ei hi hei
      · obtain ⟨ad, rfl⟩ := may_some hN hM
        exact rwalk1_any ad n c L cur W hN (by have := hM.ge; have := hN.len; omega) (by have := hM.le; have := hN.len; omega) hTW i ei hi hei
  · refine ⟨wr0 1, oks_nil, fun A n c w hA hnc hAl hT hAN => ?_⟩
    refine step_w1 A n c L cur a w hA hnc hAl hT hg.1 false _ (by decide) (tr_no hg hM hnc) hAN (fun A' c' W hN hc hTW => walk1_of A' n c' L cur W hN hTW _ fun W' hN' hT' => ?_) (fun h => by cases h) (fun _ => rfl) hk
    exact back_no A' n c' L cur W' hN' hc hT' hg.2 hM
set_option maxRecDepth 100000 in
set_option maxHeartbeats 4000000 in
theorem stepd_w2 (L : List NodeS) (cur : Int) (a : NodeS) (hg : OkS L) (hk : ∀ W : World, Calls Tryd.prog 21 #[.int .i64 a.sq, .int .i64 10] W fun r W' => r = .returned (.int .i64 6) ∧ W' = W) : ∃ D, OkS D.ns ∧ StepD L cur a D := by
  by_cases hM : MayT L cur
  · obtain ⟨i, ei, hi, hei, _, _⟩ := may_cur hM
    refine ⟨wkR 2 L cur ei, ?_, fun A n c w hA hnc hAl hT hAN => ?_⟩
    · unfold wkR
      split
      · split
        · exact oks_nil
        · exact hg
      · exact oks_nil
    · have hok : OkS (wkR 2 L cur ei).ns := by
        unfold wkR
        split
        · split
          · exact oks_nil
          · exact hg
        · exact oks_nil
      refine step_w2 A n c L cur a w hA hnc hAl hT hg.1 true _ hok.1 (tr_yes hg hM hnc) hAN (fun A' c' W hN hc hTW => walk2_of A' n c' L cur W hN hTW _ fun W' hN' hT' => ?_) (fun _ W hN hTW => ?_) (fun h => by cases h) hk
      · obtain ⟨ad, rfl⟩ := may_some hN' hM
        exact pwalk2_any ad n c' L cur W' hN' hc hT' hM i ei hi hei
      · obtain ⟨ad, rfl⟩ := may_some hN hM
        exact rwalk2_any ad n c L cur W hN (by have := hM.ge; have := hN.len; omega) (by have := hM.le; have := hN.len; omega) hTW i ei hi hei
  · refine ⟨wr0 1, oks_nil, fun A n c w hA hnc hAl hT hAN => ?_⟩
    refine step_w2 A n c L cur a w hA hnc hAl hT hg.1 false _ (by decide) (tr_no hg hM hnc) hAN (fun A' c' W hN hc hTW => walk2_of A' n c' L cur W hN hTW _ fun W' hN' hT' => ?_) (fun h => by cases h) (fun _ => rfl) hk
    exact again_no A' n c' L cur W' hN' hc hT' hg.2 hM
set_option maxRecDepth 100000 in
set_option maxHeartbeats 4000000 in
theorem stepd_w3 (L : List NodeS) (cur : Int) (a : NodeS) (hg : OkS L) (hk : ∀ W : World, Calls Tryd.prog 21 #[.int .i64 a.sq, .int .i64 10] W fun r W' => r = .returned (.int .i64 7) ∧ W' = W) : ∃ D, OkS D.ns ∧ StepD L cur a D := by
  by_cases hM : MayT L cur
  · obtain ⟨i, ei, hi, hei, _, _⟩ := may_cur hM
    refine ⟨wkR 3 L cur ei, ?_, fun A n c w hA hnc hAl hT hAN => ?_⟩
    · unfold wkR
      split
      · split
        · exact oks_nil
        · exact hg
      · exact oks_nil
    · have hok : OkS (wkR 3 L cur ei).ns := by
        unfold wkR
        split
        · split
          · exact oks_nil
          · exact hg
        · exact oks_nil
      refine step_w3 A n c L cur a w hA hnc hAl hT hg.1 true _ hok.1 (tr_yes hg hM hnc) hAN (fun A' c' W hN hc hTW => walk3_of A' n c' L cur W hN hTW _ fun W' hN' hT' => ?_) (fun _ W hN hTW => ?_) (fun h => by cases h) hk
      · obtain ⟨ad, rfl⟩ := may_some hN' hM
        exact pwalk3_any ad n c' L cur W' hN' hc hT' hM i ei hi hei
      · obtain ⟨ad, rfl⟩ := may_some hN hM
        exact rwalk3_any ad n c L cur W hN (by have := hM.ge; have := hN.len; omega) (by have := hM.le; have := hN.len; omega) hTW i ei hi hei
  · refine ⟨wr0 1, oks_nil, fun A n c w hA hnc hAl hT hAN => ?_⟩
    refine step_w3 A n c L cur a w hA hnc hAl hT hg.1 false _ (by decide) (tr_no hg hM hnc) hAN (fun A' c' W hN hc hTW => walk3_of A' n c' L cur W hN hTW _ fun W' hN' hT' => ?_) (fun h => by cases h) (fun _ => rfl) hk
    exact earlier_of A' n c' L cur W' hN' hT' _ fun W2 hN2 hT2 => beside_no A' n c' L cur W2 hN2 hc hT2 hg.2 hM (-1)
set_option maxRecDepth 100000 in
set_option maxHeartbeats 4000000 in
theorem stepd_w4 (L : List NodeS) (cur : Int) (a : NodeS) (hg : OkS L) (hk : ∀ W : World, Calls Tryd.prog 21 #[.int .i64 a.sq, .int .i64 10] W fun r W' => r = .returned (.int .i64 8) ∧ W' = W) : ∃ D, OkS D.ns ∧ StepD L cur a D := by
  by_cases hM : MayT L cur
  · obtain ⟨i, ei, hi, hei, _, _⟩ := may_cur hM
    refine ⟨wkR 4 L cur ei, ?_, fun A n c w hA hnc hAl hT hAN => ?_⟩
    · unfold wkR
      split
      · split
        · exact oks_nil
        · exact hg
      · exact oks_nil
    · have hok : OkS (wkR 4 L cur ei).ns := by
        unfold wkR
        split
        · split
          · exact oks_nil
          · exact hg
        · exact oks_nil
      refine step_w4 A n c L cur a w hA hnc hAl hT hg.1 true _ hok.1 (tr_yes hg hM hnc) hAN (fun A' c' W hN hc hTW => walk4_of A' n c' L cur W hN hTW _ fun W' hN' hT' => ?_) (fun _ W hN hTW => ?_) (fun h => by cases h) hk
      · obtain ⟨ad, rfl⟩ := may_some hN' hM
        exact pwalk4_any ad n c' L cur W' hN' hc hT' hM i ei hi hei
      · obtain ⟨ad, rfl⟩ := may_some hN hM
        exact rwalk4_any ad n c L cur W hN (by have := hM.ge; have := hN.len; omega) (by have := hM.le; have := hN.len; omega) hTW i ei hi hei
  · refine ⟨wr0 1, oks_nil, fun A n c w hA hnc hAl hT hAN => ?_⟩
    refine step_w4 A n c L cur a w hA hnc hAl hT hg.1 false _ (by decide) (tr_no hg hM hnc) hAN (fun A' c' W hN hc hTW => walk4_of A' n c' L cur W hN hTW _ fun W' hN' hT' => ?_) (fun h => by cases h) (fun _ => rfl) hk
    exact later_of A' n c' L cur W' hN' hT' _ fun W2 hN2 hT2 => beside_no A' n c' L cur W2 hN2 hc hT2 hg.2 hM 1
set_option maxRecDepth 100000 in
set_option maxHeartbeats 4000000 in
theorem stepd_j (L : List NodeS) (cur : Int) (a : NodeS) (hg : OkS L) (hk : ∀ W : World, Calls Tryd.prog 21 #[.int .i64 a.sq, .int .i64 10] W fun r W' => r = .returned (.int .i64 9) ∧ W' = W) : ∃ D, OkS D.ns ∧ StepD L cur a D := by
  by_cases hM : MayT L cur
  · by_cases hz : idx L a.pa < 0
    · refine ⟨wr0 3, oks_nil, fun A n c w hA hnc hAl hT hAN => ?_⟩
      refine step_j A n c L cur a w hA hnc hAl hT hg.1 true _ (by decide) (tr_yes hg hM hnc) hAN (fun A' c' W hN hc hTW => ?_) (fun h => by cases h) (fun _ _ => rfl) (fun _ p ep h1 _ => by omega) hk
      obtain ⟨ad, rfl⟩ := may_some hN hM
      exact jump_none ad n c' L cur W hN hc hTW hM a.pa hz
    · obtain ⟨p, ep, q1, q2, q3⟩ := idx_some (L := L) (z := a.pa) (by omega)
      refine ⟨⟨L, a.pa, ep.tx, ep.at_, 0⟩, hg, fun A n c w hA hnc hAl hT hAN => ?_⟩
      refine step_j A n c L cur a w hA hnc hAl hT hg.1 true _ hg.1 (tr_yes hg hM hnc) hAN (fun A' c' W hN hc hTW => ?_) (fun h => by cases h) (fun _ h => absurd h hz) (fun _ p' ep' h1 h2 => ?_) hk
      · obtain ⟨ad, rfl⟩ := may_some hN hM
        have h := jump_any ad n c' L cur W hN hc hTW hM a.pa p ep q1 q2
        rw [q3] at h
        exact h
      · rw [q1] at h1
        have h1 : p = p' := by omega
        subst h1
        rw [q2] at h2
        injection h2 with h2
        rw [h2]
  · refine ⟨wr0 1, oks_nil, fun A n c w hA hnc hAl hT hAN => ?_⟩
    exact step_j A n c L cur a w hA hnc hAl hT hg.1 false _ (by decide) (tr_no hg hM hnc) hAN (fun A' c' W hN hc hTW => jump_no A' n c' L cur W hN hc hTW hg.2 hM a.pa) (fun _ => rfl) (fun h => by cases h) (fun h => by cases h) hk
set_option maxRecDepth 100000 in
set_option maxHeartbeats 4000000 in
theorem stepd_c (L : List NodeS) (cur : Int) (a : NodeS) (hg : OkS L) (hsz : a.tx.size ≤ 140737488351232) (k : Nat) (hk4 : k ≤ 4) (hk : ∀ W : World, Calls Tryd.prog 21 #[.int .i64 a.sq, .int .i64 10] W fun r W' => r = .returned (.int .i64 k) ∧ W' = W) : ∃ D, OkS D.ns ∧ StepD L cur a D := by
  by_cases hM : MayT L cur
  · by_cases hf : mayB a.tx = true ∧ (0 ≤ a.pa ∧ a.pa ≤ 4000) ∧ (2 ≤ a.at_ ∧ a.at_ ≤ 64)
    · obtain ⟨f1, f2, f3⟩ := hf
      have hor := ok_ord hM.ok
      obtain ⟨l, hl⟩ : ∃ l, L.getLast? = some l := ⟨L[L.length - 1]'(by have := hM.ge; omega), by rw [List.getLast?_eq_getElem?]; exact List.getElem?_eq_getElem (by have := hM.ge; omega)⟩
      have hlm := List.mem_of_getLast? hl
      have hl0 := hor.ge l hlm
      have hlk : L[L.length - 1]? = some l := by rw [← List.getLast?_eq_getElem?]; exact hl
      have hl1 := ((ref_of_ok hM.ok _ l hlk).1).2.1.2
      by_cases hfull : 1073741824 ≤ l.sq
      · refine ⟨wr0 4, oks_nil, fun A n c w hA hnc hAl hT hAN => ?_⟩
        refine step_c A n c L cur a w hA hnc hAl hT hg.1 true _ (by decide) (tr_yes hg hM hnc) hAN k hk4 rfl rfl hsz (fun A' c' W hN hc hTW => ?_) (fun _ _ _ _ W hN hTW => ?_) (fun h => absurd ⟨rfl, f1, decide_eq_true f2, decide_eq_true f3⟩ h) hk
        · obtain ⟨ad, rfl⟩ := may_some hN hM
          exact (commit_full ad n c' L cur a.tx a.pa a.at_ W hN hc hTW hM hsz f1 f2 f3 l hl (by omega)).mono fun r w' h => toldc h
        · obtain ⟨ad, rfl⟩ := may_some hN hM
          exact (rcommit_full ad n c L cur a.tx a.pa a.at_ l W hN (by have := hM.ge; have := hN.len; omega) (by have := hM.le; have := hN.len; omega) hTW hl hfull).mono fun r w' h => toldc h
      · obtain ⟨m, hm⟩ : ∃ m : Nat, a.at_ = (m : Int) := ⟨a.at_.toNat, by omega⟩
        obtain ⟨i, ei, hi, hei, hcu, hil⟩ := may_cur hM
        have hcl : cur ≤ l.sq := by
          rw [← hcu]
          by_cases h : i = L.length - 1
          · subst h; rw [hlk] at hei; injection hei with hei; rw [hei]; omega
          · have := hor.srt i (L.length - 1) ei l hei hlk (by omega); omega
        have hor2 : Ord (L ++ [⟨l.sq + 1, cur, a.pa, a.tx⟩]) := hor.snoc hl (by show l.sq < l.sq + 1; omega) (by show cur < l.sq + 1; omega) (by show 0 ≤ l.sq + 1; omega)
        have hok : OkS (cmt L cur l.sq a.tx a.pa m).1 := cmt_oks hg hM.ge hM.le hsz (by omega)
        refine ⟨⟨(cmt L cur l.sq a.tx a.pa m).1, (cmt L cur l.sq a.tx a.pa m).2, ⟨#[]⟩, 0, 0⟩, hok, fun A n c w hA hnc hAl hT hAN => ?_⟩
        refine step_c A n c L cur a w hA hnc hAl hT hg.1 true _ hok.1 (tr_yes hg hM hnc) hAN k hk4 rfl rfl hsz (fun A' c' W hN hc hTW => ?_) (fun _ _ _ _ W hN hTW => ?_) (fun h => absurd ⟨rfl, f1, decide_eq_true f2, decide_eq_true f3⟩ h) hk
        · obtain ⟨ad, rfl⟩ := may_some hN hM
          rw [hm]
          exact commit_any ad n c' L cur a.tx a.pa m l W hN hc hTW hM f1 f2 (by omega) hl ⟨hl0, by omega⟩
        · obtain ⟨ad, rfl⟩ := may_some hN hM
          rw [hm]
          exact rcommit_any ad n c L cur a.tx a.pa m l W hN (by have := hM.ge; have := hN.len; omega) (by have := hM.le; have := hN.len; omega) hTW (by omega) hl ⟨hl0, by omega⟩ hor2
    · refine ⟨wr0 1, oks_nil, fun A n c w hA hnc hAl hT hAN => ?_⟩
      refine step_c A n c L cur a w hA hnc hAl hT hg.1 true _ (by decide) (tr_yes hg hM hnc) hAN k hk4 rfl rfl hsz (fun A' c' W hN hc hTW => ?_) (fun _ h1 h2 h3 => absurd ⟨h1, of_decide_eq_true h2, of_decide_eq_true h3⟩ hf) (fun _ => rfl) hk
      obtain ⟨ad, rfl⟩ := may_some hN hM
      exact (commit_form ad n c' L cur a.tx a.pa a.at_ W hN hc hTW hM hsz hf).mono fun r w' h => toldc h
  · refine ⟨wr0 1, oks_nil, fun A n c w hA hnc hAl hT hAN => ?_⟩
    exact step_c A n c L cur a w hA hnc hAl hT hg.1 false _ (by decide) (tr_no hg hM hnc) hAN k hk4 rfl rfl hsz (fun A' c' W hN hc hTW => (commit_no A' n c' L cur W hN hc hTW hg.2 hM a.tx a.pa a.at_).mono fun r w' h => toldc h) (fun h => by cases h) (fun _ => rfl) hk
theorem stepd_any (L : List NodeS) (cur : Int) (a : NodeS) (hg : OkS L) (hsz : a.tx.size ≤ 140737488351232) : ∃ D, OkS D.ns ∧ StepD L cur a D := by
  obtain ⟨k, hk10, hk⟩ := within_eq a.sq
  by_cases h4 : k ≤ 4
  · exact stepd_c L cur a hg hsz k h4 hk
  · by_cases h5 : k = 5
    · subst h5; exact stepd_w1 L cur a hg hk
    · by_cases h6 : k = 6
      · subst h6; exact stepd_w2 L cur a hg hk
      · by_cases h7 : k = 7
        · subst h7; exact stepd_w3 L cur a hg hk
        · by_cases h8 : k = 8
          · subst h8; exact stepd_w4 L cur a hg hk
          · obtain rfl : k = 9 := by omega
            exact stepd_j L cur a hg hk
end Go.Proofs.YtgehjkbcgcpbnaaDoor
