/-
  A TREE OF ROWS: all its rows told.
-/
import Derived.Test.YtdgbaeliabaneaaDoorRoN
import Derived.Deep.RegionLaw
import Derived.Deep.AppendLies
import Derived.OwnWalk
set_option linter.unusedVariables false
namespace Go.Proofs.YtdgbaeliabaneaaDoor
open Go Go.RowKit

theorem info_str : (Tryd.prog.info? 9).map (fun i => (i.zero, i.size, i.bytes)) = some (some (.string ⟨#[]⟩), 1, 16) := by kernel_rfl
theorem one_str {a : ByteArray} : ∀ u ∈ ([Value.string a] : List Value), u.oneCell' = true := by
  intro u hu
  simp only [List.mem_cons, List.not_mem_nil, or_false] at hu
  rcases hu with rfl
  rfl
theorem one_cells {W : World} {a : Value} {ty : TypeId} : ∀ j u, ([a] : List Value)[j]? = some u → (W.alloc (.cells #[a] ty)).cell? ((⟨W.heap.size, 0, none⟩ : Addr).add j) = some u := by
  intro j u hj
  rw [addr_add, cell_of_row _ _ _ _ _ _ (heap_alloc_new W _)]
  match j, hj with
  | 0, hj => simpa using hj
/-- What is owned is kept. -/
theorem ownsRow_kept {S : Nat → Prop} {w w' : World} {B : Nat} {e : TypeId} {sz n : Nat} {v : Value} {xs : List Value} (h : w.ownsRow B e sz v n xs) (hk : Kept S w w') (hs : ∀ g, v.ownBlock = some g → ¬ S g) : w'.ownsRow B e sz v n xs := by
  refine ⟨h.1, ?_⟩
  rcases h.2 with hn | ⟨g, cap, cur, rfl, hb, hgg, rest⟩
  · exact .inl hn
  · exact .inr ⟨g, cap, cur, rfl, hb, (hk.block g (Array.getElem?_eq_some_iff.1 hgg).1 (hs g rfl)).trans hgg, rest⟩
/-- Append of one text that the call has laid, in a region that draws. -/
theorem step_append_str {w : World} {ops : Array Oper} {o : Oper} {a : Act} {K : Act → World → Prop} {Q : Exit → Act → World → Prop} {E : Prop} (hgd : o.guard = none) (s x : Operand) (ho : o.op = .call { callee := .builtin .append, args := #[s, x], argTypes := #[22, 22] })
    (base : Nat) (v : Value) (n : Nat) (xs : List Value) (hs : a.eval s = v) (hown : w.ownsRow base 9 1 v n xs) (ad : Addr) (p : ByteArray) (hx : a.eval x = .slice (some ad) 1 1)
    (hnews : ∀ j u, ([Value.string p] : List Value)[j]? = some u → w.cell? (ad.add j) = some u) (hb : n + 1 ≤ 1000000) (hbase : base ≤ w.heap.size)
    (h : ∀ v' w', w'.ownsRow base 9 1 v' (n + 1) (xs ++ [.string p]) → w.grownBy w' v.ownBlock → K (a.put o.dst v') w') :
    if Region.wanted o (yielded ops a.tmps) = true then Oper.wp Tryd.prog o a w K Q else E := by
  have hw : Region.wanted o (yielded ops a.tmps) = true := by simp [Region.wanted, hgd]
  rw [if_pos hw]
  obtain ⟨i0, hi, hz0, hz1, hz2⟩ := info_parts info_str
  obtain ⟨v', w', hrun, h2, h3, h4, h5⟩ := run_append_own_at (P := Tryd.prog) w base 22 o.type 9 i0 (.string ⟨#[]⟩) 1 16 Tryd.underlying22 hi hz0 hz1 hz2 rfl (by decide) v n xs hown ad 1 1 [.string p] rfl hnews one_str (by unfold maxLen; omega) (by omega) hbase
  unfold Oper.wp
  simp [execOp, ho, resolve, invoke, builtin, hs, hx, hrun, Result.andThen]
  exact h v' w' h2 h3
theorem own_form {w : World} {B n : Nat} {v : Value} {xs : List Value} (h : w.ownsRow B 9 1 v (n + 1) xs) : ∃ g c, v = .slice (some ⟨g, 0, none⟩) (n + 1) c := by
  rcases h.2 with ⟨_, hn⟩ | ⟨g, cap, cur, rfl, _⟩
  · omega
  · exact ⟨g, cap, rfl⟩
/-- Rows told so far, in a variable. -/
structure Acc (w : World) (B lb : Nat) (L : List ByteArray) : Prop where
  bx : ∃ v, w.heap[lb]? = some (.cells #[v] 22) ∧ w.ownsRow B 9 1 v L.length (L.map .string)
  lo : B ≤ lb
theorem own_ne {w : World} {B lb n : Nat} {v : Value} {xs : List Value} {cs : Array Value} (hown : w.ownsRow B 9 1 v n xs) (h : w.heap[lb]? = some (.cells cs 22)) : ∀ g, v.ownBlock = some g → g ≠ lb := by
  intro g hg
  rcases hown.2 with ⟨rfl, _⟩ | ⟨g', cap, cur, rfl, hb, hgg, rest⟩
  · cases hg
  · cases hg
    exact block_ne hgg h (by decide)
set_option maxRecDepth 100000 in
set_option maxHeartbeats 4000000 in
theorem allf_any (B lb : Nat) (L : List ByteArray) (s : ByteArray) (w : World) (h : Acc w B lb L) (hs : s.size ≤ 1000000) (hL : L.length + 1 ≤ 1000000) :
    Calls Tryd.prog 36 #[.string s, .pointer (some ⟨lb, 0, none⟩)] w fun e w' => (∃ u, e = .returned u) ∧ Acc w' B lb (L ++ [s]) ∧ Kept (fun q => B ≤ q) w w' := by
  obtain ⟨⟨v, hb, hown⟩, hlo⟩ := h
  have hbs : B ≤ w.heap.size := Nat.le_of_lt (Nat.lt_of_le_of_lt hlo (heap_lt hb))
  have f0 : w.cell? ⟨lb, 0, none⟩ = some v := cell_of_row _ _ _ _ _ _ hb
  have HF : Hid (∀ W, Kept (fun _ => False) w W → W.cell? ⟨lb, 0, none⟩ = some v ∧ W.ownsRow B 9 1 v L.length (L.map .string) ∧ B ≤ W.heap.size) := fun W hk => ⟨cell_kept hk f0 id, ownsRow_kept hown hk (fun _ _ h => h), Nat.le_trans hbs hk.size⟩
  have HBX := Lib.hid hb
  have HLO := Lib.hid hlo
  have HLT : Hid (∀ k, v.ownBlock = some k → B ≤ k ∧ k < w.heap.size) := hown.lt
  have HNE : Hid (∀ g, v.ownBlock = some g → g ≠ lb) := own_ne hown hb
  have HEL : Hid ((L ++ [s]).length = L.length + 1 ∧ (L ++ [s]).map Value.string = L.map .string ++ [.string s]) := ⟨by simp, by simp⟩
  have cC := clone_any s w.drew hs
  have HD : Hid (Kept (fun _ => False) w w.drew) := (Kept.refl _ w).drew
  have KA := (HF.out w.drew HD.out).1
  generalize hxs : L.map Value.string = xs at *
  generalize hn : L.length = n at *
  clear hb hown hlo hbs hxs hn
  go_enter Tryd.func36, Tryd.ntmps36
  go_upto_region 0 with fail
  go_region_law (first
    | (go_simp; go_at_call 37; refine cC.mono ?_; rintro e w2 ⟨rfl, hk2⟩; have HK2 := Lib.hid (HD.out.trans hk2); have KB := (HF.out w2 HK2.out).1; have KC := (HF.out (w2.alloc (.cells #[.string s] 9)) (HK2.out.alloc _)).1; have HO2 := Lib.hid (HF.out w2 HK2.out).2; clear hk2 cC)
    | (refine step_append_str rfl (.tmp 3) (.tmp 6) rfl B v n xs rfl (HO2.out.1.alloc _) ⟨_, 0, none⟩ s rfl one_cells (by omega) (by have := HO2.out.2; simp; omega) ?_; intro v8 w8 hown8 hgrow8; obtain ⟨g8, c8, rfl⟩ := own_form hown8; have HO8 := Lib.hid hown8; have HG8 := Lib.hid hgrow8; have HBX8 : Hid (w8.heap[lb]? = some (.cells #[v] 22)) := (hgrow8.block lb (Nat.lt_of_lt_of_le (heap_lt ((HK2.out.block lb (heap_lt HBX.out) id).trans HBX.out)) (by simp)) (fun e => HNE.out lb e.symm rfl)).trans ((((Kept.refl (fun _ => False) w2).alloc _).block lb (heap_lt ((HK2.out.block lb (heap_lt HBX.out) id).trans HBX.out)) id).trans ((HK2.out.block lb (heap_lt HBX.out) id).trans HBX.out)); have f8 := frozen_of (i := 0) HBX8.out; have k8 : w8.cell? ⟨lb, 0, none⟩ = some v := cell_of_row _ _ _ _ _ _ HBX8.out; clear hown8 hgrow8))
  all_goals
    have hks : Kept (fun q => q = lb) w8 (w8.setCell ⟨lb, 0, none⟩ (.slice (some ⟨g8, 0, none⟩) (n + 1) c8)) := (Kept.refl (fun q => q = lb) w8).setCell (p := ⟨lb, 0, none⟩) rfl _
    have HKS := Lib.hid hks
    clear hks
    go_wp2_with fail
    refine bodyPost_end (results_none rfl _ _ _) rfl ⟨⟨_, rfl⟩, ⟨⟨.slice (some ⟨g8, 0, none⟩) (n + 1) c8, heap_set HBX8.out _, ?_⟩, HLO.out⟩, ?_⟩
    · rw [HEL.out.1, HEL.out.2]
      exact ownsRow_kept HO8.out HKS.out (fun g hg h => own_ne HO8.out HBX8.out g hg h)
    · have hk3 : Kept (fun q => B ≤ q) w w8 := (((HK2.out.alloc (.cells #[.string s] 9)).any (S := fun q => B ≤ q))).trans ⟨HG8.out.os, HG8.out.tape, HG8.out.output, HG8.out.size, fun k hk hs => HG8.out.block k hk (fun e => hs (HLT.out k e.symm).1)⟩
      exact hk3.trans (HKS.out.mono (fun k _ h => by subst h; exact HLO.out))
/-- What is there lies below the heap's end. -/
theorem TrM.old {W : World} {B : Nat} (hB : W.heap.size ≤ B) : ∀ {t : Tr} {v : Value}, TrM W X0 v t → TrM W (fun q => B ≤ q) v t
  | .nil, v, h => h
  | .node l s r, v, h => by
    obtain ⟨b, vl, vr, e, hx, hb, hl, hr⟩ := h
    exact ⟨b, vl, vr, e, (by have := heap_lt hb; omega), hb, TrM.old hB hl, TrM.old hB hr⟩
theorem Acc.kept {w w' : World} {B lb : Nat} {L : List ByteArray} (h : Acc w B lb L) (hk : Kept (fun _ => False) w w') : Acc w' B lb L := by
  obtain ⟨⟨v, hb, hown⟩, hlo⟩ := h
  exact ⟨⟨v, (hk.block _ (heap_lt hb) id).trans hb, ownsRow_kept hown hk (fun _ _ h => h)⟩, hlo⟩
set_option maxRecDepth 100000 in
set_option maxHeartbeats 4000000 in
theorem walk_any (B lb : Nat) (t : Tr) : ∀ (v : Value) (L : List ByteArray) (w : World), TrM w (fun q => B ≤ q) v t → Acc w B lb L → t.sm → L.length + t.size ≤ 1000000 →
    Calls Tryd.prog 35 #[v, .func (.func 36) #[] #[.pointer (some ⟨lb, 0, none⟩)]] w fun e w' => (∃ u, e = .returned u) ∧ Acc w' B lb (L ++ t.rows) ∧ Kept (fun q => B ≤ q) w w' := by
  induction t with
  | nil =>
    intro v L w h hA _ _
    have h1 : v = .pointer none := h
    subst h1
    have HA := Lib.hid hA
    clear h hA
    go_enter Tryd.func35, Tryd.ntmps35
    go_wp2
    refine bodyPost_end (results_none rfl _ _ _) rfl ⟨⟨_, rfl⟩, ?_, Kept.refl _ w⟩
    rw [Tr.rows, List.append_nil]
    exact HA.out
  | node l s r ihl ihr =>
    intro v L w h hA hsm hL
    obtain ⟨b, vl, vr, rfl, hx, hb, hl, hr⟩ := h
    obtain ⟨pl, rfl⟩ := hl.ptr
    obtain ⟨pr, rfl⟩ := hr.ptr
    have hbx : ¬ B ≤ b := hx
    have f1 : w.cell? ⟨b, 1, none⟩ = some (.pointer pl) := cell_of_row _ _ _ _ _ _ hb
    have KF : Hid (∀ W, Kept (fun q => B ≤ q) w W → W.cell? ⟨b, 0, none⟩ = some (.string s) ∧ W.cell? ⟨b, 2, none⟩ = some (.pointer pr) ∧ TrM W (fun q => B ≤ q) (.pointer pr) r) := fun W hk => ⟨cell_kept hk (cell_of_row _ _ _ _ _ _ hb) hbx, cell_kept hk (cell_of_row _ _ _ _ _ _ hb) hbx, hr.kept hk (fun _ h => h)⟩
    simp only [Tr.size] at hL
    have e1 := l.size_rows
    have cL := ihl (.pointer pl) L w hl hA hsm.1 (by omega)
    have HCR : Hid (∀ W, Kept (fun q => B ≤ q) w W → Acc W B lb (L ++ l.rows ++ [s]) → Calls Tryd.prog 35 #[.pointer pr, .func (.func 36) #[] #[.pointer (some ⟨lb, 0, none⟩)]] W fun e w' => (∃ u, e = .returned u) ∧ Acc w' B lb (L ++ l.rows ++ [s] ++ r.rows) ∧ Kept (fun q => B ≤ q) W w') := fun W hk ha => ihr (.pointer pr) _ W (KF.out W hk).2.2 ha hsm.2.1 (by simp only [List.length_append, List.length_cons, List.length_nil]; omega)
    have HCF : Hid (∀ W, Acc W B lb (L ++ l.rows) → Calls Tryd.prog 36 #[.string s, .pointer (some ⟨lb, 0, none⟩)] W fun e w' => (∃ u, e = .returned u) ∧ Acc w' B lb (L ++ l.rows ++ [s]) ∧ Kept (fun q => B ≤ q) W w') := fun W ha => allf_any B lb (L ++ l.rows) s W ha hsm.2.2.1 (by rw [List.length_append]; omega)
    have HEQ : Hid (L ++ (Tr.node l s r).rows = L ++ l.rows ++ [s] ++ r.rows) := by show _ = _; simp [Tr.rows]
    clear hA hsm hL e1 ihl ihr hl hr hb hx hbx
    go_enter Tryd.func35, Tryd.ntmps35
    go_wp2_with (first
      | (go_at_call 35; refine cL.mono ?_; rintro e w1 ⟨⟨u1, rfl⟩, hA1, hk1⟩; have HK1 := Lib.hid hk1; have g0 := (KF.out w1 HK1.out).1; clear hk1 cL; have cF := HCF.out w1 hA1; clear hA1)
      | (go_at_call 36; refine cF.mono ?_; rintro e w2 ⟨⟨u2, rfl⟩, hA2, hk2⟩; have HK2 := Lib.hid (HK1.out.trans hk2); have g2 := (KF.out w2 HK2.out).2.1; clear hk2 cF; have cR := HCR.out w2 HK2.out hA2; clear hA2)
      | (go_at_call 35; refine cR.mono ?_; rintro e w3 ⟨⟨u3, rfl⟩, hA3, hk3⟩; have HK3 := Lib.hid (HK2.out.trans hk3); have HA3 := Lib.hid hA3; clear hk3 cR hA3))
    refine bodyPost_end (results_none rfl _ _ _) rfl ⟨⟨_, rfl⟩, ?_, HK3.out⟩
    rw [HEQ.out]
    exact HA3.out
end Go.Proofs.YtdgbaeliabaneaaDoor
