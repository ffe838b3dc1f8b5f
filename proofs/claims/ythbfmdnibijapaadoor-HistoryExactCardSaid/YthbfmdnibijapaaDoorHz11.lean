/-
  TREES: a text committed, the tree pruned.
  HISTORY: led to a node; links dropped.
-/
import Derived.Test.YthbfmdnibijapaaDoorHz10
import Derived.Test.YthbfmdnibijapaaDoorHz09
set_option linter.unusedVariables false
namespace Go.Proofs.YthbfmdnibijapaaDoor
open Go Go.RowKit

/-- Append of nodes to one's own, in a region that draws. -/
theorem step_append_nodes {w : World} {ops : Array Oper} {o : Oper} {a : Act} {K : Act → World → Prop} {Q : Exit → Act → World → Prop} {E : Prop} (hgd : o.guard = none) (s x : Operand) (ho : o.op = .call { callee := .builtin .append, args := #[s, x], argTypes := #[22, 22] })
    (base : Nat) (v : Value) (n : Nat) (xs : List Value) (hs : a.eval s = v) (hown : w.ownsRow base 46 4 v n xs) (ad : Addr) (m c : Nat) (news : List Value) (hx : a.eval x = .slice (some ad) m c) (hl : news.length = m * 4)
    (hnews : ∀ j u, news[j]? = some u → w.cell? (ad.add j) = some u) (h1 : ∀ u ∈ news, u.oneCell' = true) (hb : n + m ≤ 1000000) (hbase : base ≤ w.heap.size)
    (h : ∀ v' w', w'.ownsRow base 46 4 v' (n + m) (xs ++ news) → w.grownBy w' v.ownBlock → K (a.put o.dst v') w') :
    if Region.wanted o (yielded ops a.tmps) = true then Oper.wp Tryd.prog o a w K Q else E := by
  have hw : Region.wanted o (yielded ops a.tmps) = true := by simp [Region.wanted, hgd]
  rw [if_pos hw]
  obtain ⟨i0, hi, hz0, hz1, hz2⟩ := info_parts info_node
  obtain ⟨v', w', hrun, h2, h3, h4, h5⟩ := run_append_own_at (P := Tryd.prog) w base 22 o.type 46 i0 (.agg #[.int .i64 0, .int .i64 0, .int .i64 0, .string ⟨#[]⟩]) 4 40 Tryd.underlying22 hi hz0 hz1 hz2 rfl (by decide) v n xs hown ad m c news hl hnews h1 (by unfold maxLen; omega) (by omega) hbase
  unfold Oper.wp
  simp [execOp, ho, resolve, invoke, builtin, hs, hx, hrun, Result.andThen]
  exact h v' w' h2 h3
/-- So many times one node less. -/
def prI : Nat → List NodeS × Int → List NodeS × Int
  | 0, p => p
  | j + 1, p => prn (prI j p).1 (prI j p).2
theorem prI_len {p : List NodeS × Int} : ∀ {j : Nat}, j + 1 ≤ p.1.length → (prI j p).1.length + j = p.1.length
  | 0, _ => rfl
  | j + 1, h => by
    have ih := prI_len (p := p) (j := j) (by omega)
    have h2 := prn_len (L := (prI j p).1) (cur := (prI j p).2) (by omega)
    show (prn (prI j p).1 (prI j p).2).1.length + (j + 1) = _
    omega
/-- What is committed. -/
def cmt (L : List NodeS) (cur z : Int) (s : ByteArray) (at' : Int) (most : Nat) : List NodeS × Int := prI (L.length + 1 - most) (L ++ [⟨z + 1, cur, at', s⟩], z + 1)
theorem make_nodes (m : Nat) (w : World) (hm : m ≤ 1000) : ∃ w', (Instr.makeSlice 22 (.int .i64 0) (.int .i64 (m : Int))).run Tryd.prog w = .ok (.slice (some ⟨w.heap.size, 0, none⟩) 0 m) w' ∧ w'.ownsRow w.heap.size 46 4 (.slice (some ⟨w.heap.size, 0, none⟩) 0 m) 0 [] ∧ Kept (fun _ => False) w w' := by
  obtain ⟨i0, hi, hz0, hz1, hz2⟩ := info_parts info_node
  obtain ⟨w', h1, h2, h3⟩ := run_make_own (P := Tryd.prog) w w.heap.size 22 46 i0 (.agg #[.int .i64 0, .int .i64 0, .int .i64 0, .string ⟨#[]⟩]) 4 Tryd.underlying22 hi hz0 hz1 .i64 .i64 m (by rw [hz2]; omega) (by unfold maxLen; omega) (Nat.le_refl _)
  exact ⟨w', h1, h2, (Kept.refl _ w).grown h3⟩
theorem own_app {w : World} {B n : Nat} {v : Value} {xs : List Value} (h : w.ownsRow B 46 4 v n xs) {w' : World} (hk : Kept (fun _ => False) w w') : w'.ownsRow B 46 4 v n xs := by
  refine ⟨h.1, ?_⟩
  rcases h.2 with hn | ⟨g, cap, cur, e, hb, hg, rest⟩
  · exact .inl hn
  · exact .inr ⟨g, cap, cur, e, hb, (hk.block g (heap_lt hg) id).trans hg, rest⟩
theorem Tabs.two {w : World} (h : Tabs w) : 1 < w.heap.size := by
  have c1 : w.cell? ⟨1, 0, none⟩ = some (.int .u8 (Lib.accLo 0)) := (h.2 0 (by omega)).1
  exact World.block_lt_of_cell? w _ c1
theorem cells_grown {w w' : World} {row : Option Nat} (hg : w.grownBy w' row) {zb : Nat} (hz : zb < w.heap.size) (hne : row ≠ some zb) {j : Nat} {u : Value} (h : w.cell? ((⟨zb, 0, none⟩ : Addr).add j) = some u) : w'.cell? ((⟨zb, 0, none⟩ : Addr).add j) = some u := by
  have hk : Kept (fun k => row = some k) w w' := ⟨hg.os, hg.tape, hg.output, hg.size, fun k hk hn => hg.block k hk (fun e => hn e.symm)⟩
  refine cell_kept hk h ?_
  rw [show ((⟨zb, 0, none⟩ : Addr).add j).block = zb by rw [addr_add]]
  exact hne
def sliceLen : Option Value → Nat
  | some (.slice _ m _) => m
  | _ => 0
set_option maxRecDepth 100000 in
set_option maxHeartbeats 8000000 in
theorem commit_any (ad : Addr) (n c : Nat) (L : List NodeS) (cur : Int) (s : ByteArray) (at' : Int) (most : Nat) (l : NodeS) (w : World) (hA : Ng w (some ad) n L) (hnc : n ≤ c) (hT : Tabs w) (hM : MayT L cur) (hs : mayB s = true) (ha : 0 ≤ at' ∧ at' ≤ 4000) (hm : 2 ≤ most ∧ most ≤ 64) (hlast : L.getLast? = some l) (hsq : 0 ≤ l.sq ∧ l.sq < 1073741824) :
    Calls Tryd.prog 43 #[treeV (.slice (some ad) n c) cur, .string s, .int .i64 at', .int .i64 most] w fun r w' => (∃ v, r = .returned (.tuple #[treeV v (cmt L cur l.sq s at' most).2, .int .i64 0]) ∧ On w' w.heap.size v (cmt L cur l.sq s at' most).1) ∧ Kept (fun _ => False) w w' := by
  have hl := hA.len
  have hle := hM.le
  have hge := hM.ge
  rw [hl] at hle hge
  have hsz := mayB_size hs
  have HK0 : Hid (Kept (fun _ => False) w ((w.alloc (treeO (.slice (some ad) n c) cur)).alloc nilT)) := ((Kept.refl _ w).alloc _).alloc _
  have HI0 := Lib.hid (tri_new (c := c) (cur := cur) hT hA (by omega))
  have cC := fun W (h : TrI ad n c L cur w.heap.size W) => tcheck_ok (some ad) n c L cur W h.ng hnc h.tabs hM
  have cS := fun W (h : Tabs W) => check_any s W (by omega) h
  rw [if_pos hs] at cS
  obtain ⟨k, hk⟩ : ∃ k, n = k + 1 := ⟨n - 1, by omega⟩
  have hlk : L[k]? = some l := by rw [List.getLast?_eq_getElem?, show L.length - 1 = k by omega] at hlast; exact hlast
  have HND : Hid (∀ W, TrI ad n c L cur w.heap.size W → Nd4 W (ad.add (k * 4)) l) := fun W h => (h.ng.nd hlk).2
  have hcm : cmt L cur l.sq s at' most = prI (n + 1 - most) (L ++ [⟨l.sq + 1, cur, at', s⟩], l.sq + 1) := by unfold cmt; rw [hl]
  obtain ⟨CM, hCM⟩ : ∃ CM, cmt L cur l.sq s at' most = CM := ⟨_, rfl⟩
  rw [hCM] at hcm ⊢
  have HCM := Lib.hid hcm
  obtain ⟨lsq, lpa, lat, ltx⟩ := l
  simp only at hsq HND HCM
  obtain ⟨tb, htb⟩ : ∃ tb, w.heap.size = tb := ⟨_, rfl⟩
  have HTB := Lib.hid htb
  rw [htb] at HI0 cC HND
  have HHL := Lib.hid hl
  have HTW := Lib.hid hT.two
  have q1 : decide (at' < 0) = false := decide_eq_false (by omega)
  have q2 : decide ((4000 : Int) < at') = false := decide_eq_false (by omega)
  have q3 : decide ((most : Int) < 2) = false := decide_eq_false (by omega)
  have q4 : decide ((64 : Int) < (most : Int)) = false := decide_eq_false (by omega)
  have q5 : decide (most < 2) = false := decide_eq_false (by omega)
  have q6 : decide (64 < most) = false := decide_eq_false (by omega)
  have q7 : (lsq == 1073741824) = false := by rw [beq_eq_false_iff_ne]; omega
  have w1_ : IntKind.i64.wrap ((n : Int) - 1) = (k : Int) := by rw [show (n : Int) - 1 = (k : Int) by omega]; exact IntWalk.i64_in _ ⟨by omega, by omega⟩
  have b1 : (0 : Int) ≤ (k : Int) := by omega
  have b2 : (k : Int) < (n : Int) := by omega
  have wn : IntKind.i64.wrap ((n : Int) + 1) = ((n + 1 : Nat) : Int) := by rw [show (n : Int) + 1 = ((n + 1 : Nat) : Int) by omega]; exact IntWalk.i64_in _ ⟨by omega, by omega⟩
  have wq : IntKind.i64.wrap (lsq + 1) = lsq + 1 := IntWalk.i64_in _ ⟨by omega, by omega⟩
  clear htb hA hT hM hl hs hlast hlk hcm hCM hk
  go_enter Tryd.func43, Tryd.ntmps43
  go_upto_region 1 with fail
  simp only [HTB.out]
  simp only [treeO, nilT] at HI0 HK0
  generalize (w.alloc _).alloc _ = w0 at *
  obtain ⟨t0, t1⟩ := HI0.out.cells
  have cC0 := cC w0 HI0.out
  go_upto_region 3 with (first
    | (go_at_call 59; refine cC0.mono ?_; rintro r w1 ⟨rfl, hk1⟩; have HK1 := Lib.hid (HK0.out.trans hk1); have HI1 := Lib.hid (HI0.out.kept hk1); clear hk1 t0 t1 cC0 cC)
    | (go_at_call 48; refine (cS _ HI1.out.tabs).mono ?_; rintro r w2 ⟨rfl, hk2⟩; have HK2 := Lib.hid (HK1.out.trans hk2); have HI2 := Lib.hid (HI1.out.kept hk2); clear hk2 cS))
  clear q1 q2 q3 q4 q5 q6
  obtain ⟨t0, t1⟩ := HI2.out.cells
  have f0 := (HND.out w2 HI2.out).c0
  simp only at f0
  obtain ⟨N, hN⟩ : ∃ N, n + 1 = N := ⟨_, rfl⟩
  rw [hN] at wn HCM
  obtain ⟨w3, hmk, hown, hk3⟩ := make_nodes N w2 (by omega)
  have HI3 := Lib.hid (HI2.out.kept hk3)
  have HK3 := Lib.hid (HK2.out.trans hk3)
  have HO3 := Lib.hid hown
  have HB3 : Hid (w2.heap.size ≤ w3.heap.size) := hk3.size
  have HK23 := Lib.hid hk3
  have HB2 : Hid (tb + 1 < w2.heap.size) := heap_lt HI2.out.res
  clear hown hk3
  go_upto_region 7 with fail
  clear hmk f0 t0 t1 w1_ b1 b2 wn q7
  obtain ⟨B, hB⟩ : ∃ B, w2.heap.size = B := ⟨_, rfl⟩
  have HBE := Lib.hid hB
  simp only [hB] at HB3 HB2 HO3 ⊢
  clear hB
  have KF : Hid (∀ W, Kept (fun _ => False) w2 W → W.cell? ⟨tb, 0, none⟩ = some (.slice (some ad) n c) ∧ W.cell? ⟨tb, 1, none⟩ = some (.int .i64 cur)) := fun W h => (HI2.out.kept h).cells
  have KG : Hid (∀ W, Kept (fun _ => False) w2 W → ∀ j u, (flatN L)[j]? = some u → W.cell? (ad.add j) = some u) := fun W h => ng_news (HI2.out.kept h).ng
  have KA := KF.out w3.drew HK23.out.drew
  have KA2 := Lib.hid (fun o => KF.out (w3.alloc o).drew ((HK23.out.alloc o).drew))
  have hfl : (flatN L).length = n * 4 := by rw [flatN_len, HHL.out]
  have hb0 : Hid (B ≤ w3.drew.heap.size) := HB3.out
  have hb1 : Hid (∀ o, B ≤ (w3.alloc o).drew.heap.size) := fun o => Nat.le_trans HB3.out ((Kept.refl (fun _ => False) w3).alloc o).size
  have hbs : Hid (∀ q, (Value.slice (some ⟨B, 0, none⟩) 0 N).ownBlock = some q → w2.heap.size ≤ q) := fun q hq => by rw [HBE.out]; injection hq with hq; rw [← hq]; exact Nat.le_refl _
  have h3lt : Hid (∀ o, w3.heap.size < (w3.alloc o).drew.heap.size) := fun o => by show w3.heap.size < (w3.alloc o).heap.size; simp
  have h3ne : Hid ((Value.slice (some ⟨B, 0, none⟩) 0 N).ownBlock ≠ some w3.heap.size) := fun e => by have e : some B = some w3.heap.size := e; injection e with e; have := (HO3.out.lt B rfl).2; omega
  go_cut [11] from 55 to 67 (fun v wx => On wx B v (L ++ [⟨lsq + 1, cur, at', s⟩]) ∧ TrI ad n c L cur tb wx ∧ Kept (fun _ => False) w wx)
  case first =>
    go_region_held3 (fun (W : World) => W.cell? ⟨tb, 0, none⟩ = some (.slice (some ad) n c) ∧ W.cell? ⟨tb, 1, none⟩ = some (.int .i64 cur))
      (first | with_reducible exact KD | with_reducible exact KB | with_reducible exact KA | with_reducible exact KA2.out _ | with_reducible exact KC.out _)
      (first
        | (refine step_append_nodes rfl (.tmp 55) (.tmp 57) rfl B _ 0 [] rfl (own_app HO3.out (Kept.refl (fun _ => False) w3).drew) ad n c (flatN L) rfl hfl (KG.out _ HK23.out.drew) flatN_one' (by omega) hb0.out ?_; intro v7 w7 hown7 hgrow7; rw [Nat.zero_add, List.nil_append] at hown7; have HO7 := Lib.hid hown7; have HK7 := Lib.hid (Kept.grew HK23.out.drew hgrow7 hbs.out); have KB := KF.out w7 HK7.out; have KC := Lib.hid (fun o => KF.out (w7.alloc o) (HK7.out.alloc o)); have hb7 : Hid (∀ o, B ≤ (w7.alloc o).heap.size) := (fun o => Nat.le_trans (Nat.le_trans HB3.out (Nat.le_trans (show w3.heap.size ≤ w3.drew.heap.size from Nat.le_refl _) hgrow7.size)) ((Kept.refl (fun _ => False) w7).alloc o).size); clear hown7 hgrow7)
        | (refine step_append_nodes rfl (.tmp 58) (.tmp 66) rfl B v7 n (flatN L) rfl (own_app HO7.out ((Kept.refl (fun _ => False) w7).alloc _)) ⟨_, 0, none⟩ 1 1 (NodeS.vs ⟨lsq + 1, cur, at', s⟩) rfl rfl (nfour_cells (e := ⟨lsq + 1, cur, at', s⟩)) nfour_one (by omega) (hb7.out _) ?_; intro v9 w9 hown9 hgrow9; have HO9 := Lib.hid hown9; have HK9 := Lib.hid (Kept.grew (HK7.out.alloc _) hgrow9 (fun q hq => by rw [HBE.out]; exact (HO7.out.lt q hq).1)); have KD := KF.out w9 HK9.out; clear hown9 hgrow9)
        | (refine step_append_nodes rfl (.tmp 55) (.tmp 57) rfl B _ 0 [] rfl (own_app HO3.out ((Kept.refl (fun _ => False) w3).alloc _).drew) ad n c (flatN L) rfl hfl (KG.out _ (HK23.out.alloc _).drew) flatN_one' (by omega) (hb1.out _) ?_; intro v7 w7 hown7 hgrow7; rw [Nat.zero_add, List.nil_append] at hown7; have HO7 := Lib.hid hown7; have HK7 := Lib.hid (Kept.grew (HK23.out.alloc _).drew hgrow7 hbs.out); have KB := KF.out w7 HK7.out; have HNC : Hid (∀ j u, (NodeS.vs ⟨lsq + 1, cur, at', s⟩)[j]? = some u → w7.cell? ((⟨w3.heap.size, 0, none⟩ : Addr).add j) = some u) := (fun j u hu => cells_grown hgrow7 (h3lt.out _) h3ne.out (nfour_cells (W := w3) (e := ⟨lsq + 1, cur, at', s⟩) (ty := 46) j u hu)); have hb8 : Hid (B ≤ w7.heap.size) := Nat.le_trans (hb1.out _) hgrow7.size; clear hown7 hgrow7)
        | (refine step_append_nodes rfl (.tmp 58) (.tmp 66) rfl B v7 n (flatN L) rfl HO7.out ⟨w3.heap.size, 0, none⟩ 1 1 (NodeS.vs ⟨lsq + 1, cur, at', s⟩) rfl rfl HNC.out nfour_one (by omega) hb8.out ?_; intro v9 w9 hown9 hgrow9; have HO9 := Lib.hid hown9; have HK9 := Lib.hid (Kept.grew HK7.out hgrow9 (fun q hq => by rw [HBE.out]; exact (HO7.out.lt q hq).1)); have KD := KF.out w9 HK9.out; clear hown9 hgrow9))
    all_goals
      have HON : Hid (On w9 B v9 (L ++ [⟨lsq + 1, cur, at', s⟩])) := On.snoc (by rw [HHL.out]; exact HO9.out)
      go_wp2_with fail
      go_meet
      exact ⟨HON.out, HI2.out.kept HK9.out, HK2.out.trans HK9.out⟩
  case rest =>
    obtain ⟨hon, hI5, hk5⟩ := hcut
    obtain ⟨w5, hw5⟩ : ∃ w5, w5 = wc := ⟨_, rfl⟩
    subst hw5
    obtain ⟨g, cap, rfl, hBg, hog⟩ := hon.og (by simp)
    have hlen : (L ++ [(⟨lsq + 1, cur, at', s⟩ : NodeS)]).length = N := by rw [List.length_append, HHL.out, ← hN]; rfl
    rw [hlen] at hog ⊢
    obtain ⟨p0, hp0⟩ : ∃ p0 : List NodeS × Int, (L ++ [⟨lsq + 1, cur, at', s⟩], lsq + 1) = p0 := ⟨_, rfl⟩
    rw [hp0] at HCM
    have hp1 : p0.1 = L ++ [⟨lsq + 1, cur, at', s⟩] := by rw [← hp0]
    have hp2 : p0.2 = lsq + 1 := by rw [← hp0]
    rw [← hp1] at hog hlen
    have HPL := Lib.hid hlen
    have HP2 := Lib.hid hp2
    have hgw := hog.lt
    have HGW := Lib.hid hgw
    have HI5 := Lib.hid hI5
    have HK5 := Lib.hid hk5
    have HGB : Hid (B ≤ g) := hBg
    have hk6 : Kept (fun _ => False) w5 (w5.alloc (treeO (.slice (some ⟨g, 0, none⟩) N cap) (lsq + 1))) := (Kept.refl _ w5).alloc _
    have HV6 : Hid (Tvr (w5.alloc (treeO (.slice (some ⟨g, 0, none⟩) N cap) (lsq + 1))) w5.heap.size g N cap p0.1 p0.2) := ⟨by rw [hp2]; exact heap_alloc_new w5 _, hog.kept hk6 id, by show g ≠ _; omega⟩
    have HI6 := Lib.hid (hI5.kept hk6)
    have HK6 := Lib.hid (hk5.trans hk6)
    have HX5 : Hid (tb + 1 < w5.heap.size) := heap_lt hI5.res
    have hmax : N ≤ 65 := by omega
    clear hon hI5 hk5 hBg hog hlen hp0 hp1 hp2 hgw hk6 KA KA2 hfl
    go_upto_region 9 with fail
    simp only [treeO] at HV6 HI6 HK6
    generalize w5.alloc _ = w6 at *
    generalize w5.heap.size = xb at *
    obtain ⟨NN, hNN⟩ : ∃ NN, N - most = NN := ⟨_, rfl⟩
    rw [hNN] at HCM
    have HNN := Lib.hid hNN
    clear hNN
    go_loopw [74] (fun _ wr => ∃ j : Nat, j ≤ NN ∧ Tvr wr xb g (N - j) cap (prI j p0).1 (prI j p0).2 ∧ Kept (fun q => q = g ∨ q = xb) w6 wr) (fun _ wr => sliceLen (wr.cell? ⟨xb, 0, none⟩))
    case atStart => exact ⟨0, Nat.zero_le _, HV6.out, Kept.refl _ _⟩
    case round =>
      obtain ⟨j, hj, hv, hkr⟩ := hrel
      have HV := Lib.hid hv
      have HKR := Lib.hid hkr
      obtain ⟨t0, t1, t2, t3⟩ := tree_facts hv.box
      have hgb1 : tb + 1 < B := HB2.out
      have hgb2 : B ≤ g := HGB.out
      have hgb3 : tb + 1 < xb := HX5.out
      have HIr : Hid (Tabs wr ∧ wr.heap[tb + 1]? = some nilT) := ⟨HI6.out.tabs.kept hkr (by show ¬ (0 = g ∨ 0 = xb); omega) (by show ¬ (1 = g ∨ 1 = xb); have := HTW.out; have := HTB.out; omega), (hkr.block _ (heap_lt HI6.out.res) (by show ¬ (tb + 1 = g ∨ tb + 1 = xb); omega)).trans HI6.out.res⟩
      by_cases hlt : j < NN
      · have hnj : most < N - j := by have := HNN.out; omega
        obtain ⟨M, hM⟩ : ∃ M, N - j = M := ⟨_, rfl⟩
        rw [hM] at hnj t0
        have b1 : decide ((most : Int) < (M : Int)) = true := decide_eq_true (by omega)
        have b2 : decide (most < M) = true := decide_eq_true hnj
        have cP := prune_any xb g M cap _ _ wr (by rw [← hM]; exact hv) (by omega) (by omega) HIr.out.1 (by have := HTW.out; have := HTB.out; omega) (by have := HTW.out; have := HTB.out; omega)
        have hM1 : M - 1 = N - (j + 1) := by omega
        rw [hM1] at cP
        have HT0 : Hid (sliceLen (wr.cell? ⟨xb, 0, none⟩) = M) := by show _ = _; rw [t0]; rfl
        have HMM : Hid (N - (j + 1) < M) := by show _ < _; omega
        clear hv hkr hM hM1 hgb1 hgb2 hgb3 hnj t1 t2 t3
        go_wp2_with (go_at_call 60; refine cP.mono ?_; rintro r w8 ⟨rfl, hv8, hk8⟩; have HV8 := Lib.hid hv8; have HK8 := Lib.hid (HKR.out.trans hk8); clear hv8 hk8 cP)
        go_roundw
        case rel => exact ⟨j + 1, by omega, HV8.out, HK8.out⟩
        case measure =>
          rw [HT0.out, (tree_facts HV8.out.box).1]
          exact HMM.out
      · obtain rfl : j = NN := by omega
        have hnj : ¬ most < N - j := by have := HNN.out; omega
        obtain ⟨M, hM⟩ : ∃ M, N - j = M := ⟨_, rfl⟩
        rw [hM] at hnj t0
        have HV' := Lib.hid (hM ▸ hv)
        have b1 : decide ((most : Int) < (M : Int)) = false := decide_eq_false (by omega)
        have b2 : decide (most < M) = false := decide_eq_false hnj
        obtain ⟨CL, CC⟩ := CM
        have hcm : prI j p0 = (CL, CC) := HCM.out.symm
        rw [hcm] at HV' t1
        simp only at HV' t1
        have HR := Lib.hid HIr.out.2
        obtain ⟨r0, r1, r2, r3⟩ := tree_facts HR.out
        clear hv hM hnj hcm
        go_wp2_with fail
        refine bodyPost_ret (res_t1 rfl _ _ (tb + 1) _ CC rfl rfl (tree_set HR.out _ _)) rfl ⟨⟨_, rfl, ?ho⟩, ?hk⟩
        case ho =>
          have hl2 : CL.length = M := HV'.out.og.len
          have h1 := (HV'.out.og.kept (Kept.tree (g := tb + 1) (S := fun q => q = tb + 1) (Kept.refl (fun q => q = tb + 1) wr) rfl (.slice (some ⟨g, 0, none⟩) M cap) (.int .i64 CC)) (by show ¬ g = tb + 1; omega)).on (B := w.heap.size) (by have := HTB.out; omega)
          exact h1
        case hk => exact HK6.out.fresh (Kept.tree (g := tb + 1) (S := fun q => q = tb + 1 ∨ q = g ∨ q = xb) (HKR.out.mono (fun _ _ h => .inr h)) (.inl rfl) _ _) (fun b hb h => by have := HTB.out; omega)
end Go.Proofs.YthbfmdnibijapaaDoor
namespace Go.Proofs.YthbfmdnibijapaaDoor
open Go Go.RowKit

section
variable {most : Int} {ad : Addr} {n c : Nat} {L : List NodeS} {cur : Int} {mb hb : Nat} {s : ByteArray} {k : Int} {kv : List (Int × Value)}
set_option maxRecDepth 100000 in
theorem hto_err (v : Value) (cur' at' e : Int) (s' : ByteArray) (w : World) (he : e ≠ 0) :
    Calls Tryd.prog 45 #[.pointer (some ⟨hb, 0, none⟩), treeV v cur', .string s', .int .i64 at', .int .i64 e] w fun r w' => r = .returned (.tuple #[.string ⟨#[]⟩, .int .i64 0, .int .i64 e]) ∧ Kept (fun _ => False) w w' := by
  have b1 : (e == 0) = false := by rw [beq_eq_false_iff_ne]; exact he
  have b2 : (e != 0) = true := by simp; exact he
  have HK0 : Hid (Kept (fun _ => False) w (w.alloc (treeO v cur'))) := (Kept.refl _ w).alloc _
  simp only [treeO] at HK0
  clear he
  go_enter Tryd.func45, Tryd.ntmps45
  go_wp2_with fail
  exact bodyPost_ret (v := .tuple #[.string ⟨#[]⟩, .int .i64 0, .int .i64 e]) (by simp [results, Tryd.results45, go_sem]) rfl ⟨rfl, HK0.out⟩
set_option maxRecDepth 100000 in
set_option maxHeartbeats 4000000 in
theorem hto_ok (A' : Option Addr) (n' c' : Nat) (cur' at' : Int) (s' z : ByteArray) (Q : List ByteArray) (G : Int → Option (Int × PatS × PatS)) (U0 D0 : List PatS) (w : World) (h : Hq most ad n c L cur mb hb s k kv w) (hn : n ≤ 64) (hG : Good L kv G) (hW : Way G cur cur' U0 D0) (hU : U0.length ≤ 1000) (hD : D0.length ≤ 1) (hf : 0 ≤ cur) (ht : 0 ≤ cur')
    (hch : U0 ++ D0 = chain s Q) (hq : Q.length ≤ 1000) (hmay : ∀ t ∈ s :: Q, mayB t = true) (hz : (s :: Q).getLast? = some z) (hk : 0 ≤ k ∧ k ≤ 1000000) :
    Calls Tryd.prog 45 #[.pointer (some ⟨hb, 0, none⟩), treeV (.slice A' n' c') cur', .string s', .int .i64 at', .int .i64 0] w fun r w' => r = .returned (.tuple #[.string z, .int .i64 at', .int .i64 0]) ∧ w'.heap[hb]? = some (histO most (.slice A' n' c') cur' mb z (k + (Q.length : Nat))) ∧ Kept (fun q => q = hb) w w' := by
  have hlt := heap_lt h.box
  have hk0 : Kept (fun _ => False) w (w.alloc (treeO (.slice A' n' c') cur')) := (Kept.refl _ w).alloc _
  have HH := Lib.hid (h.kept hk0)
  have HT0 := Lib.hid (heap_alloc_new w (treeO (.slice A' n' c') cur'))
  have HK0 := Lib.hid hk0
  have cP := fun W (h : Hq most ad n c L cur mb hb s k kv W) => path_any G cur cur' U0 D0 W h hn hG hW hU hD hf ht
  rw [hch] at cP
  have HCP := Lib.hid cP
  have hcl := chain_len s Q
  have HCL := Lib.hid hcl
  have cA := fun A m cc W (hP : Ps W A m (chain s Q)) (hT : Tabs W) => happly_any A m cc s Q W hP hT (by have := hP.len; omega) hmay z hz
  have HCA := Lib.hid cA
  obtain ⟨N, hN⟩ : ∃ N, (chain s Q).length = N := ⟨_, rfl⟩
  have HN := Lib.hid hN
  have hNQ : Q.length = N := by rw [← hN, hcl]
  rw [hNQ]
  rw [hNQ] at hq
  obtain ⟨tb, htb⟩ : ∃ tb, w.heap.size = tb := ⟨_, rfl⟩
  have HTB := Lib.hid htb
  have hne : ¬ tb = hb := by omega
  rw [htb] at HT0
  clear h hk0 hG hW hch hmay hz cP cA htb hcl hN hNQ
  go_enter Tryd.func45, Tryd.ntmps45
  go_upto_region 3 with fail
  simp only [HTB.out]
  simp only [treeO] at HH HT0 HK0
  generalize w.alloc _ = w0 at *
  have KF : Hid (∀ W, Kept (fun _ => False) w0 W → W.cell? ⟨hb, 2, none⟩ = some (.int .i64 cur) ∧ W.cell? ⟨tb, 1, none⟩ = some (.int .i64 cur')) := by
    show ∀ W, _
    intro W hk
    exact ⟨(hist_facts (HH.out.kept hk).box).2.2.1, (tree_facts ((hk.block _ (heap_lt HT0.out) id).trans HT0.out)).2.1⟩
  have KA := KF.out w0.drew (Kept.refl _ w0).drew
  have HD := Lib.hid (HH.out.kept (Kept.refl (fun _ => False) w0).drew)
  go_region_held3 (fun (W : World) => W.cell? ⟨hb, 2, none⟩ = some (.int .i64 cur) ∧ W.cell? ⟨tb, 1, none⟩ = some (.int .i64 cur'))
    (first | with_reducible exact KB | with_reducible exact KA)
    (first | (go_at_call 39; refine (HCP.out _ HD.out).mono ?_; rintro r w2 ⟨⟨v, rfl, hO⟩, hk2⟩; obtain ⟨AP, cP, rfl, hP, hPc, hPn, hPb⟩ := hO.ps; have HK2 := Lib.hid ((Kept.refl (fun _ => False) w0).drew.trans hk2); have KB := KF.out w2 HK2.out; have HP := Lib.hid hP; clear hk2 hO hP hPn hPb))
  all_goals
    clear KA KB
    rw [HN.out] at HP hPc ⊢
    have HQ2 := Lib.hid (HH.out.kept HK2.out)
    have HT2 := Lib.hid ((HK2.out.block _ (heap_lt HT0.out) id).trans HT0.out)
    obtain ⟨_, _, _, _, f4, _⟩ := hist_facts HQ2.out.box
    have cA2 := HCA.out AP N cP w2 HP.out HQ2.out.tabs
    go_upto_region 5 with (go_at_call 38; refine cA2.mono ?_; rintro r w3 ⟨rfl, hk3⟩; have HQ3 := Lib.hid (HQ2.out.kept hk3); have HT3 := Lib.hid ((hk3.block _ (heap_lt HT2.out) id).trans HT2.out); have HK3 := Lib.hid (HK0.out.trans (HK2.out.trans hk3)); have k4 : w3.frozen? ⟨hb, 4, none⟩ = false := frozen_of HQ3.out.box; have e4 := (hist_facts HQ3.out.box).2.2.2.2.1; clear hk3 cA2)
    have HB4 : Hid ((w3.setCell ⟨hb, 4, none⟩ (.string z)).heap[hb]? = some (histO most (.slice (some ad) n c) cur mb z k)) := (heap_set HQ3.out.box _).trans rfl
    have HT4 : Hid ((w3.setCell ⟨hb, 4, none⟩ (.string z)).heap[tb]? = some (treeO (.slice A' n' c') cur')) := (heap_far hne _).trans HT3.out
    have HK4 : Hid (Kept (fun q => q = hb) w (w3.setCell ⟨hb, 4, none⟩ (.string z))) := (HK3.out.any (S := fun q => q = hb)).setCell (p := ⟨hb, 4, none⟩) rfl _
    generalize w3.setCell ⟨hb, 4, none⟩ (.string z) = w4 at *
    clear f4 k4 e4
    obtain ⟨t0, t1, _⟩ := tree_facts HT4.out
    have k1 : w4.frozen? ⟨hb, 1, none⟩ = false := frozen_of HB4.out
    have k2 : w4.frozen? ⟨hb, 2, none⟩ = false := frozen_of HB4.out
    obtain ⟨_, g1, g2, _, _, _⟩ := hist_facts HB4.out
    go_upto_region 6 with fail
    clear t0 t1 k1 k2 g1 g2
    have HB5 : Hid (((w4.setCell ⟨hb, 1, none⟩ (.slice A' n' c')).setCell ⟨hb, 2, none⟩ (.int .i64 cur')).heap[hb]? = some (histO most (.slice A' n' c') cur' mb z k)) := (heap_set (heap_set HB4.out _) _).trans rfl
    have HK5 : Hid (Kept (fun q => q = hb) w ((w4.setCell ⟨hb, 1, none⟩ (.slice A' n' c')).setCell ⟨hb, 2, none⟩ (.int .i64 cur'))) := ((HK4.out.setCell (p := ⟨hb, 1, none⟩) rfl _).setCell (p := ⟨hb, 2, none⟩) rfl _)
    generalize (w4.setCell ⟨hb, 1, none⟩ (.slice A' n' c')).setCell ⟨hb, 2, none⟩ (.int .i64 cur') = w5 at *
    obtain ⟨_, _, _, _, _, g5⟩ := hist_facts HB5.out
    have cD := add64_any ⟨hb, 5, none⟩ k (N : Int) w5 g5 (frozen_of HB5.out) (by omega) (by omega) (by omega) (by omega)
    clear g5
    have HB6 : Hid ((w5.setCell ⟨hb, 5, none⟩ (.int .i64 (k + (N : Int)))).heap[hb]? = some (histO most (.slice A' n' c') cur' mb z (k + (N : Int)))) := (heap_set HB5.out _).trans rfl
    have HK6 : Hid (Kept (fun q => q = hb) w (w5.setCell ⟨hb, 5, none⟩ (.int .i64 (k + (N : Int))))) := HK5.out.setCell (p := ⟨hb, 5, none⟩) rfl _
    go_upto_region 7 with (go_at_call 61; refine cD.mono ?_; rintro r w6 ⟨rfl, hw⟩; have hw2 := hw.symm; clear hw; subst hw2; clear cD)
    generalize w5.setCell ⟨hb, 5, none⟩ (.int .i64 (k + (N : Int))) = w6 at *
    obtain ⟨_, _, _, _, g4, _⟩ := hist_facts HB6.out
    go_wp2_with fail
    exact bodyPost_ret (v := .tuple #[.string z, .int .i64 at', .int .i64 0]) (by simp [results, Tryd.results45, go_sem]) rfl ⟨rfl, HB6.out, HK6.out⟩
end
end Go.Proofs.YthbfmdnibijapaaDoor
