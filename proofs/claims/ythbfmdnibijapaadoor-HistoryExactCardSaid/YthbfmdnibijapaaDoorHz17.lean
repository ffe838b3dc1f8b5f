/-
  UndoBack: the small ones; what a tree that was committed to holds.
  UndoBack: the law's walk.
-/
import Derived.Test.YthbfmdnibijapaaDoorHz11
import Derived.Test.YthbfmdnibijapaaDoorHz16
set_option linter.unusedVariables false
namespace Go.Proofs.YthbfmdnibijapaaDoor
open Go Go.RowKit

set_option maxRecDepth 100000 in
set_option maxHeartbeats 4000000 in
theorem commit_bad (ad : Addr) (n c : Nat) (L : List NodeS) (cur : Int) (s : ByteArray) (at' : Int) (most : Nat) (w : World) (hA : Ng w (some ad) n L) (hnc : n ≤ c) (hT : Tabs w) (hM : MayT L cur) (hs : mayB s = false) (hsz : s.size ≤ 140737488351232) (ha : 0 ≤ at' ∧ at' ≤ 4000) (hm : 2 ≤ most ∧ most ≤ 64) :
    Calls Tryd.prog 43 #[treeV (.slice (some ad) n c) cur, .string s, .int .i64 at', .int .i64 most] w fun r w' => r = .returned (.tuple #[treeV (.slice none 0 0) 0, .int .i64 1]) ∧ Kept (fun _ => False) w w' := by
  have hl := hA.len
  have hle := hM.le
  have hge := hM.ge
  rw [hl] at hle hge
  have HK0 : Hid (Kept (fun _ => False) w ((w.alloc (treeO (.slice (some ad) n c) cur)).alloc nilT)) := ((Kept.refl _ w).alloc _).alloc _
  have HI0 := Lib.hid (tri_new (c := c) (cur := cur) hT hA (by omega))
  have cC := fun W (h : TrI ad n c L cur w.heap.size W) => tcheck_ok (some ad) n c L cur W h.ng hnc h.tabs hM
  have cS := fun W (h : Tabs W) => check_any s W (by omega) h
  rw [hs, if_neg (by decide)] at cS
  obtain ⟨tb, htb⟩ : ∃ tb, w.heap.size = tb := ⟨_, rfl⟩
  have HTB := Lib.hid htb
  rw [htb] at HI0 cC
  have HHL := Lib.hid hl
  clear htb hA hT hM hl hs
  go_enter Tryd.func43, Tryd.ntmps43
  go_upto_region 1 with fail
  simp only [HTB.out]
  simp only [treeO, nilT] at HI0 HK0
  generalize (w.alloc _).alloc _ = w0 at *
  obtain ⟨t0, t1⟩ := HI0.out.cells
  have cC0 := cC w0 HI0.out
  go_upto_region 2 with (first
    | (go_at_call 59; refine cC0.mono ?_; rintro r w1 ⟨rfl, hk1⟩; have HK1 := Lib.hid (HK0.out.trans hk1); have HI1 := Lib.hid (HI0.out.kept hk1); clear hk1 t0 t1 cC0 cC)
    | (go_at_call 48; refine (cS _ HI1.out.tabs).mono ?_; rintro r w2 ⟨rfl, hk2⟩; have HK2 := Lib.hid (HK1.out.trans hk2); have HI2 := Lib.hid (HI1.out.kept hk2); clear hk2 cS))
  obtain ⟨r0, r1, r2, r3⟩ := tree_facts HI2.out.res
  go_wp2_with fail
  refine bodyPost_ret (res_t1 rfl _ _ (tb + 1) (.slice none 0 0) 0 rfl rfl (tree_set HI2.out.res _ _)) rfl ⟨rfl, ?_⟩
  exact HK2.out.fresh (Kept.tree (g := tb + 1) (S := fun q => q = tb + 1) (Kept.refl (fun q => q = tb + 1) w2) rfl _ _) (fun b hb h => by have := HTB.out; omega)
theorem within_any (x n : Int) (hn : 1 ≤ n) (hm : n ≤ 9223372036854775807) (w : World) : Calls Tryd.prog 6 #[.int .i64 x, .int .i64 n] w fun e w' => ∃ k : Nat, (k : Int) < n ∧ e = .returned (.int .i64 k) ∧ w' = w := by
  have e1 : IntKind.u64.wrap n = n := IntWalk.u64_in n ⟨by omega, by omega⟩
  obtain ⟨q, hq, hq0⟩ : ∃ q, IntKind.u64.wrap x = q ∧ 0 ≤ q := ⟨_, rfl, by simp [IntKind.wrap, IntKind.bits, IntKind.signed]; omega⟩
  have e2 : q.tmod n = q % n := by rw [Int.tmod_eq_emod_of_nonneg hq0]
  obtain ⟨k, hk⟩ : ∃ k : Nat, q % n = (k : Int) := ⟨(q % n).toNat, by have := Int.emod_nonneg q (show n ≠ 0 by omega); omega⟩
  have hlt : (k : Int) < n := by rw [← hk]; exact Int.emod_lt_of_pos q (by omega)
  have e4 : IntKind.u64.wrap (k : Int) = (k : Int) := IntWalk.u64_in _ ⟨by omega, by omega⟩
  have hn0 : (n == 0) = false := by rw [beq_eq_false_iff_ne]; omega
  have HK := Lib.hid hk
  clear hk
  go_enter Tryd.func6, Tryd.ntmps6
  go_wp2
  go_ret
  refine ⟨k, hlt, ?_, rfl⟩
  show Ending.returned (.int .i64 (wrap64 (q % n))) = _
  rw [HK.out, IntWalk.wrap64_in _ ⟨by omega, by omega⟩]
set_option maxRecDepth 100000 in
set_option maxHeartbeats 4000000 in
theorem eqnodes_yes (v v' : Value) (L : List NodeS) (w : World) (h : Sn w v L) (h' : Sn w v' L) (hn : L.length ≤ 100000) :
    Calls Tryd.prog 36 #[v, v'] w fun e w' => e = .returned (.bool true) ∧ Kept (fun _ => False) w w' := by
  obtain ⟨A, c, rfl, hA, _, _⟩ := h.open'
  obtain ⟨B, c', rfl, hB, _, _⟩ := h'.open'
  obtain ⟨n, hN⟩ : ∃ n, L.length = n := ⟨_, rfl⟩
  rw [hN] at hn hA hB ⊢
  have HA := Lib.hid hA
  have HB := Lib.hid hB
  clear hA hB h h' hN
  go_enter Tryd.func36, Tryd.ntmps36
  go_wp2_with fail
  go_loopw [5] (fun v wr => ∃ k m : Nat, k ≤ n ∧ v = .int .i64 k ∧ wr = w.drewN m) (fun v _ => n - (intOf v).toNat)
  case atStart => exact ⟨0, 0, Nat.zero_le _, rfl, rfl⟩
  case round =>
    obtain ⟨k, m, hk, rfl, rfl⟩ := hrel
    have hkm : Kept (fun _ => False) w (w.drewN m) := (Kept.refl _ w).drewN m
    by_cases hlt : k < n
    · obtain ⟨ad, r, rfl, hr, h4⟩ := HA.out.at_ hlt
      obtain ⟨bd, r', rfl, hr', g4⟩ := HB.out.at_ hlt
      rw [hr] at hr'
      injection hr' with hr'
      subst hr'
      obtain ⟨f0, f1, f2, f3⟩ := h4
      obtain ⟨g0, g1, g2, g3⟩ := g4
      have f0' := cell_kept hkm f0 id
      have f1' := cell_kept hkm f1 id
      have f2' := cell_kept hkm f2 id
      have f3' := cell_kept hkm f3 id
      have g0' := cell_kept hkm g0 id
      have g1' := cell_kept hkm g1 id
      have g2' := cell_kept hkm g2 id
      have g3' := cell_kept hkm g3 id
      have b1 : decide (k < n) = true := decide_eq_true hlt
      have b2 : decide ((k : Int) < (n : Int)) = true := decide_eq_true (by omega)
      have t1 : (0 : Int) ≤ (k : Int) := by omega
      have t2 : (k : Int) < (n : Int) := by omega
      clear hr hkm
      go_wp2_with fail
      go_quiet (fail)
      go_wp2_with fail
      go_roundw
      case rel => exact ⟨k + 1, _, by omega, by go_num, rfl⟩
      case measure => simp [intOf] <;> omega
    · obtain rfl : k = n := by omega
      have b1 : decide (k < k) = false := decide_eq_false (by omega)
      have b2 : decide ((k : Int) < (k : Int)) = false := decide_eq_false (by omega)
      go_wp2_with fail
      go_ret
      exact ⟨rfl, (Kept.refl _ w).drewN m⟩
set_option maxRecDepth 100000 in
theorem eqtree_yes (v v' : Value) (L : List NodeS) (cur : Int) (w : World) (h : Sn w v L) (h' : Sn w v' L) (hn : L.length ≤ 100000) :
    Calls Tryd.prog 18 #[treeV v cur, treeV v' cur] w fun e w' => e = .returned (.bool true) ∧ Kept (fun _ => False) w w' := by
  have hk0 : Kept (fun _ => False) w ((w.alloc (treeO v cur)).alloc (treeO v' cur)) := ((Kept.refl _ w).alloc _).alloc _
  have cE := eqnodes_yes v v' L _ (h.kept hk0) (h'.kept hk0) hn
  obtain ⟨t0, t1, _⟩ := tree_facts (heap_two1 w (treeO v cur) (treeO v' cur))
  obtain ⟨u0, u1, _⟩ := tree_facts (heap_two2 w (treeO v cur) (treeO v' cur))
  have HT1 : Hid (∀ W, Kept (fun _ => False) ((w.alloc (treeO v cur)).alloc (treeO v' cur)) W → W.cell? ⟨w.heap.size, 1, none⟩ = some (.int .i64 cur) ∧ W.cell? ⟨w.heap.size + 1, 1, none⟩ = some (.int .i64 cur)) := fun W hk => ⟨cell_kept hk t1 id, cell_kept hk u1 id⟩
  have HK0 := Lib.hid hk0
  have hcc : (cur == cur) = true := by simp
  obtain ⟨A, n, c, rfl, _⟩ := h
  obtain ⟨B, m, d, rfl, _⟩ := h'
  clear hk0 hn t1 u1
  go_enter Tryd.func18, Tryd.ntmps18
  go_upto_region 1 with fail
  simp only [treeO] at cE HT1 HK0 t0 u0
  generalize (w.alloc _).alloc _ = w0 at *
  go_wp2_with (go_at_call 36; refine cE.mono ?_; rintro e w1 ⟨rfl, hk1⟩; obtain ⟨t1, u1⟩ := HT1.out w1 hk1; have HK1 := Lib.hid (HK0.out.trans hk1); clear hk1 cE t0 u0)
  go_ret
  exact ⟨rfl, HK1.out⟩
theorem unum_any (x : Int) (w : World) : Calls Tryd.prog 9 #[.int .i64 x] w fun e w' => e = .returned (.int .i64 x) ∧ w' = w := by
  go_enter Tryd.func9, Tryd.ntmps9
  go_wp2
  go_ret
  exact ⟨rfl, rfl⟩
/-- A tree to which texts were committed, one by one, none pruned. -/
structure Inv (L : List NodeS) (c : Nat) (S : List ByteArray) : Prop where
  may : MayT L (c : Int)
  tx : ∀ k : Nat, L[k]?.map NodeS.tx = S[k]?
  sq : ∀ (k : Nat) (e : NodeS), L[k]? = some e → e.sq = (k : Int)
  lt : c < L.length
theorem Inv.idx {L : List NodeS} {c : Nat} {S : List ByteArray} (h : Inv L c S) {k : Nat} (hk : k < L.length) : idx L (k : Int) = (k : Nat) :=
  idx_hit (ok_srt h.may.ok) (List.getElem?_eq_getElem hk) (h.sq k _ (List.getElem?_eq_getElem hk))
theorem Inv.len {L : List NodeS} {c : Nat} {S : List ByteArray} (h : Inv L c S) : S.length = L.length := by
  have h1 := h.tx L.length
  have h2 := h.tx S.length
  rw [List.getElem?_eq_none (Nat.le_refl _)] at h1
  rw [List.getElem?_eq_none (l := S) (Nat.le_refl _)] at h2
  simp at h1 h2
  omega
theorem Inv.cur {L : List NodeS} {c d : Nat} {S : List ByteArray} (h : Inv L c S) (hd : d < L.length) : Inv L d S :=
  ⟨⟨h.may.ge, h.may.le, h.may.ok, by rw [h.idx hd]; omega⟩, h.tx, h.sq, hd⟩
theorem inv_first (s : ByteArray) (hs : mayB s = true) : Inv [⟨0, -1, 0, s⟩] 0 [s] := by
  have hok : ∀ i e, ([⟨0, -1, 0, s⟩] : List NodeS)[i]? = some e → OkN (([⟨0, -1, 0, s⟩] : List NodeS).take i) e := by
    intro i e he
    match i, he with
    | 0, he =>
      injection he with he
      subst he
      exact ⟨by unfold Pl; exact ⟨rfl, rfl⟩, by show (0 : Int) ≤ 0; omega, by show (0 : Int) ≤ 4000; omega, hs⟩
    | i + 1, he => simp at he
  refine ⟨⟨by simp, by simp, hok, ?_⟩, fun k => ?_, fun k e he => ?_, by simp⟩
  · have h0 := idx_hit (ok_srt hok) (m := 0) (y := ⟨0, -1, 0, s⟩) (z := ((0 : Nat) : Int)) rfl rfl
    show 0 ≤ idx _ ((0 : Nat) : Int)
    rw [h0]
    omega
  · match k with
    | 0 => rfl
    | k + 1 => simp
  · match k, he with
    | 0, he =>
      injection he with he
      subst he
      rfl
    | k + 1, he => simp at he
theorem Inv.last {L : List NodeS} {c : Nat} {S : List ByteArray} (h : Inv L c S) : ∃ l, L.getLast? = some l ∧ l.sq + 1 = (L.length : Int) := by
  have hg := h.may.ge
  refine ⟨L[L.length - 1], by rw [List.getLast?_eq_getElem?]; exact List.getElem?_eq_getElem (by omega), ?_⟩
  have := h.sq (L.length - 1) _ (List.getElem?_eq_getElem (by omega))
  omega
theorem Inv.snoc {L : List NodeS} {c : Nat} {S : List ByteArray} {s : ByteArray} (h : Inv L c S) (hs : mayB s = true) (hl : L.length ≤ 60) : Inv (L ++ [(⟨(L.length : Int), c, 0, s⟩ : NodeS)]) L.length (S ++ [s]) := by
  obtain ⟨l, hla, hlq⟩ := h.last
  have hok : ∀ i e, (L ++ [(⟨(L.length : Int), c, 0, s⟩ : NodeS)])[i]? = some e → OkN ((L ++ [(⟨(L.length : Int), c, 0, s⟩ : NodeS)]).take i) e := by
    intro i e he
    by_cases hi : i < L.length
    · rw [List.getElem?_append_left hi] at he
      rw [List.take_append_of_le_length (by omega)]
      exact h.may.ok i e he
    · have hi2 : i = L.length := by
        have : i < (L ++ [(⟨(L.length : Int), c, 0, s⟩ : NodeS)]).length := by
          rcases Nat.lt_or_ge i (L ++ [(⟨(L.length : Int), c, 0, s⟩ : NodeS)]).length with h' | h'
          · exact h'
          · rw [List.getElem?_eq_none h'] at he; cases he
        simp at this
        omega
      subst hi2
      rw [List.getElem?_append_right (Nat.le_refl _), Nat.sub_self] at he
      injection he with he
      subst he
      rw [List.take_append_of_le_length (Nat.le_refl _), List.take_length]
      have hml := h.may.le
      have hpl : Pl L ⟨(L.length : Int), c, 0, s⟩ := (pl_some hla).2 ⟨(show l.sq < (L.length : Int) by omega), (show (L.length : Int) ≤ 1073741824 by omega), h.may.cu⟩
      exact ⟨hpl, (show (0 : Int) ≤ 0 by omega), (show (0 : Int) ≤ 4000 by omega), hs⟩
  have hsq : ∀ (k : Nat) (e : NodeS), (L ++ [(⟨(L.length : Int), c, 0, s⟩ : NodeS)])[k]? = some e → e.sq = (k : Int) := by
    intro k e he
    by_cases hk : k < L.length
    · rw [List.getElem?_append_left hk] at he
      exact h.sq k e he
    · by_cases hk2 : k = L.length
      · subst hk2
        rw [List.getElem?_append_right (Nat.le_refl _), Nat.sub_self] at he
        injection he with he
        subst he
        rfl
      · rw [List.getElem?_eq_none (by simp; omega)] at he
        cases he
  refine ⟨⟨by simp, by simp; omega, hok, ?_⟩, fun k => ?_, hsq, by simp⟩
  · have h0 := idx_hit (ok_srt hok) (m := L.length) (y := ⟨(L.length : Int), c, 0, s⟩) (z := (L.length : Int)) (by rw [List.getElem?_append_right (Nat.le_refl _), Nat.sub_self]; rfl) rfl
    rw [h0]
    omega
  · have hSL := h.len
    by_cases hk : k < L.length
    · rw [List.getElem?_append_left hk, List.getElem?_append_left (by omega)]
      exact h.tx k
    · by_cases hk2 : k = L.length
      · subst hk2
        rw [List.getElem?_append_right (Nat.le_refl _), List.getElem?_append_right (by omega), hSL, Nat.sub_self]
        rfl
      · rw [List.getElem?_eq_none (by simp; omega), List.getElem?_eq_none (by simp; omega)]
        rfl
/-- A tree in a variable. -/
def Tz (W : World) (xb : Nat) (L : List NodeS) (cur : Int) : Prop := ∃ ad c, W.heap[xb]? = some (treeO (.slice (some ad) L.length c) cur) ∧ Ng W (some ad) L.length L ∧ L.length ≤ c
theorem Tz.kept {W W' : World} {xb : Nat} {L : List NodeS} {cur : Int} (h : Tz W xb L cur) (hk : Kept (fun _ => False) W W') : Tz W' xb L cur := by
  obtain ⟨ad, c, h1, h2, h3⟩ := h
  exact ⟨ad, c, (hk.block _ (heap_lt h1) id).trans h1, h2.kept hk (fun _ _ => id), h3⟩
theorem tz_new {W : World} {B g cap : Nat} {L : List NodeS} {cur : Int} (h : Og W g L.length cap L) : Tz (W.alloc (treeO (.slice (some ⟨g, 0, none⟩) L.length cap) cur)) W.heap.size L cur :=
  ⟨_, _, heap_alloc_new W _, h.ng.kept ((Kept.refl (fun _ => False) W).alloc _) (fun _ _ => id), h.le⟩
end Go.Proofs.YthbfmdnibijapaaDoor
namespace Go.Proofs.YthbfmdnibijapaaDoor
open Go Go.RowKit

theorem cmt_few {L : List NodeS} {cur z : Int} {s : ByteArray} {a : Int} {most : Nat} (h : L.length + 1 ≤ most) : cmt L cur z s a most = (L ++ [⟨z + 1, cur, a, s⟩], z + 1) := by
  unfold cmt
  rw [show L.length + 1 - most = 0 by omega]
  rfl
theorem cmt_two {L : List NodeS} {cur z : Int} {s : ByteArray} {a : Int} (h : 1 ≤ L.length) : (cmt L cur z s a 2).1.length = 2 := by
  have h2 := prI_len (p := (L ++ [⟨z + 1, cur, a, s⟩], z + 1)) (j := L.length + 1 - 2) (by simp)
  simp only [List.length_append, List.length_singleton] at h2
  unfold cmt
  omega
theorem On.og' {w : World} {B n : Nat} {v : Value} {L : List NodeS} (h : On w B v L) (hl : L.length = n) (hn : 0 < n) : ∃ g cap, v = .slice (some ⟨g, 0, none⟩) n cap ∧ B ≤ g ∧ Og w g n cap L := by
  subst hl
  exact h.og hn
/-- What holds of memory while the law works. -/
structure Uw (w : World) (pb : Nat) (p : ScrU) (W : World) : Prop where
  par : PSu W pb p
  ok : ScrUOk W p
  tabs : Tabs W
  kp : Kept (fun _ => False) w W
theorem Uw.kept {w : World} {pb : Nat} {p : ScrU} {W W' : World} (h : Uw w pb p W) (hk : Kept (fun _ => False) W W') : Uw w pb p W' := ⟨h.par.kept hk id, h.ok.kept hk, h.tabs.kept hk id id, h.kp.trans hk⟩
/-- Texts of the law's own. -/
def Ts (W : World) (B : Nat) (v : Value) (S : List ByteArray) : Prop := W.ownsRow B 9 1 v S.length (S.map Value.string)
theorem Ts.keptS {T : Nat → Prop} {W W' : World} {B : Nat} {v : Value} {S : List ByteArray} (h : Ts W B v S) (hk : Kept T W W') (hs : ∀ k, B ≤ k → ¬ T k) : Ts W' B v S := by
  refine ⟨h.1, ?_⟩
  rcases h.2 with hn | ⟨g, cap, cur, e, hb, hg, rest⟩
  · exact .inl hn
  · exact .inr ⟨g, cap, cur, e, hb, (hk.block g (heap_lt hg) (hs g hb)).trans hg, rest⟩
theorem Ts.kept {W W' : World} {B : Nat} {v : Value} {S : List ByteArray} (h : Ts W B v S) (hk : Kept (fun _ => False) W W') : Ts W' B v S := h.keptS hk (fun _ _ => id)
theorem Ts.at_ {W : World} {B : Nat} {v : Value} {S : List ByteArray} (h : Ts W B v S) (hl : 0 < S.length) : ∃ g cap, v = .slice (some ⟨g, 0, none⟩) S.length cap ∧ B ≤ g ∧ ∀ k s, S[k]? = some s → W.cell? ⟨g, k, none⟩ = some (.string s) := by
  rcases id h.2 with ⟨_, hn⟩ | ⟨g, cap, cur, rfl, hb, hh, hcap, _, _, _⟩
  · omega
  · refine ⟨g, cap, rfl, hb, fun k s hk => ?_⟩
    have := World.ownsRow.cells h rfl k (.string s) (by rw [List.getElem?_map, hk]; rfl)
    rwa [addr_add, Nat.zero_add] at this
theorem ts_lt {W : World} {B : Nat} {v : Value} {S : List ByteArray} (h : Ts W B v S) : ∀ k, v.ownBlock = some k → B ≤ k ∧ k < W.heap.size := fun k hk => World.ownsRow.lt h k hk
theorem infoStr7 : (Tryd.prog.info? 9).map (fun i => (i.zero, i.size, i.bytes)) = some (some (.string ⟨#[]⟩), 1, 16) := by kernel_rfl
theorem str_new (w : World) (v : Value) (ty : TypeId) : ∀ j u, ([v] : List Value)[j]? = some u → (w.alloc (.cells #[v] ty)).cell? ((⟨w.heap.size, 0, none⟩ : Addr).add j) = some u := by
  intro j u hj
  match j, hj with
  | 0, hj =>
    injection hj with hj
    subst hj
    rw [addr_add, cell_of_row _ _ _ _ _ _ (heap_alloc_new w _)]
    rfl
  | _ + 1, hj => cases hj
theorem Tz.set {W : World} {xb g cap : Nat} {L : List NodeS} {v : Value} {cur cur' : Int} (hb : W.heap[xb]? = some (treeO v cur)) {ad : Addr} {c : Nat} (hn : Ng W (some ad) L.length L) (hc : L.length ≤ c) (hne : ad.block ≠ xb) : Tz ((W.setCell ⟨xb, 0, none⟩ (.slice (some ad) L.length c)).setCell ⟨xb, 1, none⟩ (.int .i64 cur')) xb L cur' :=
  ⟨ad, c, tree_set hb _ _, hn.kept (Kept.tree (g := xb) (S := fun q => q = xb) (Kept.refl (fun q => q = xb) W) rfl _ _) (fun a ha => by injection ha with ha; subst ha; exact hne), hc⟩
def firstS : ByteArray := ⟨#[102, 105, 114, 115, 116]⟩
def smallS : ByteArray := ⟨#[115, 109, 97, 108, 108]⟩
def U0 : List NodeS := [⟨0, -1, 0, ⟨#[97]⟩⟩]
def U1 : List NodeS := [⟨0, -1, 0, ⟨#[97]⟩⟩, ⟨1, 0, 0, ⟨#[98]⟩⟩]
theorem inv_u0 : Inv U0 0 [⟨#[97]⟩] := inv_first ⟨#[97]⟩ (by decide)
theorem inv_u1 : Inv U1 1 [⟨#[97]⟩, ⟨#[98]⟩] := inv_u0.snoc (s := ⟨#[98]⟩) (by decide) (by decide)
end Go.Proofs.YthbfmdnibijapaaDoor
