/-
  A TREE OF ROWS over two others, and a row between.
-/
import Derived.Test.YtdgbaeliabaneaaDoorRoB
set_option linter.unusedVariables false
namespace Go.Proofs.YtdgbaeliabaneaaDoor
open Go Go.RowKit

theorem TrM.ptr {W : World} {X : Nat → Prop} {t : Tr} {v : Value} (h : TrM W X v t) : ∃ p, v = .pointer p := by
  cases t with
  | nil => exact ⟨none, h⟩
  | node l s r => obtain ⟨b, vl, vr, e, _⟩ := h; exact ⟨_, e⟩
/-- What only touches what is newer leaves a tree. -/
theorem TrM.keptN {S X : Nat → Prop} {W W' : World} (hk : Kept S W W') (hs : ∀ q, q < W.heap.size → ¬ S q) : ∀ {t : Tr} {v : Value}, TrM W X v t → TrM W' X v t
  | .nil, v, h => h
  | .node l s r, v, h => by
    obtain ⟨b, vl, vr, e, hx, hb, hl, hr⟩ := h
    exact ⟨b, vl, vr, e, hx, (hk.block b (heap_lt hb) (hs b (heap_lt hb))).trans hb, TrM.keptN hk hs hl, TrM.keptN hk hs hr⟩
set_option maxRecDepth 100000 in
set_option maxHeartbeats 4000000 in
theorem over_any (vl vr : Value) (l r : Tr) (s : ByteArray) (X : Nat → Prop) (w : World) (hl : TrM w X vl l) (hr : TrM w X vr r) (hX : ∀ q, w.heap.size ≤ q → ¬ X q) (hs : s.size ≤ 1000000)
    (h1 : l.size ≤ 100000000 ∧ l.by_ ≤ 100000000 ∧ l.ru ≤ 100000000 ∧ l.ht ≤ 100000000) (h2 : r.size ≤ 100000000 ∧ r.by_ ≤ 100000000 ∧ r.ru ≤ 100000000 ∧ r.ht ≤ 100000000) (h3 : (rs s).length ≤ 1000000) :
    Calls Tryd.prog 42 #[vl, .string s, vr] w fun e w' => (∃ v, e = .returned v ∧ TrM w' X v (.node l s r)) ∧ Kept (fun _ => False) w w' := by
  have HL := Lib.hid hl
  have HR := Lib.hid hr
  have HXX := Lib.hid hX
  have c1 := tall_any l vl X w hl
  have c2 := tall_any r vr X w hr
  obtain ⟨pl, rfl⟩ := hl.ptr
  obtain ⟨pr, rfl⟩ := hr.ptr
  obtain ⟨H, hH⟩ : ∃ H : Nat, 1 + max l.ht r.ht = H := ⟨_, rfl⟩
  have HH : Hid ((Tr.node l s r).ht = H) := hH
  have e1 : IntKind.i64.wrap (1 + max (l.ht : Int) (r.ht : Int)) = (H : Int) := by rw [show 1 + max (l.ht : Int) (r.ht : Int) = (H : Int) by omega]; exact IntWalk.i64_in _ ⟨by omega, by omega⟩
  have HB1 := Lib.hid h1
  have HB2 := Lib.hid h2
  clear hl hr hX hH h1 h2
  go_enter Tryd.func42, Tryd.ntmps42
  go_upto_region 2 with (first
    | (go_at_call 40; refine c1.mono ?_; rintro e w' ⟨rfl, hw⟩; have hw2 := hw.symm; subst hw2; clear c1)
    | (go_at_call 40; refine c2.mono ?_; rintro e w' ⟨rfl, hw⟩; have hw2 := hw.symm; subst hw2; clear c2))
  have hk0 : Kept (fun _ => False) w (w.alloc (rnodeO s (.pointer pl) (.pointer pr) H 0 0 0)) := (Kept.refl _ w).alloc _
  have HK0 := Lib.hid hk0
  have HN0 := Lib.hid (heap_alloc_new w (rnodeO s (.pointer pl) (.pointer pr) H 0 0 0))
  have HL0 := Lib.hid (TrM.keptF hk0 HL.out)
  have HR0 := Lib.hid (TrM.keptF hk0 HR.out)
  have HNX : Hid (¬ X w.heap.size) := HXX.out _ (Nat.le_refl _)
  clear hk0
  simp only [rnodeO] at HK0 HN0 HL0 HR0
  generalize w.alloc _ = w0 at *
  obtain ⟨nb, hnb⟩ : ∃ nb, w.heap.size = nb := ⟨_, rfl⟩
  have HNB := Lib.hid hnb
  rw [hnb] at HN0 HNX ⊢
  clear hnb e1
  have cA := sum_any l (.pointer pl) X w0 HL0.out
  have HPA : Hid (∀ W : World, Calls Tryd.prog 46 #[sumsV (l.size : Nat) (l.by_ : Nat) (l.ru : Nat), sumsV 1 (s.size : Nat) ((rs s).length : Nat)] W fun e w' => e = .returned (sumsV (l.size + 1 : Nat) (l.by_ + s.size : Nat) (l.ru + (rs s).length : Nat)) ∧ Kept (fun _ => False) W w') := fun W => plus_any l.size l.by_ l.ru 1 s.size (rs s).length W (by have := HB1.out; omega) (by omega)
  have HPB : Hid (∀ W : World, Calls Tryd.prog 46 #[sumsV (l.size + 1 : Nat) (l.by_ + s.size : Nat) (l.ru + (rs s).length : Nat), sumsV (r.size : Nat) (r.by_ : Nat) (r.ru : Nat)] W fun e w' => e = .returned (sumsV (l.size + 1 + r.size : Nat) (l.by_ + s.size + r.by_ : Nat) (l.ru + (rs s).length + r.ru : Nat)) ∧ Kept (fun _ => False) W w') := fun W => plus_any (l.size + 1) (l.by_ + s.size) (l.ru + (rs s).length) r.size r.by_ r.ru W (by have := HB1.out; omega) (by have := HB2.out; omega)
  have HFIN : Hid (∀ W : World, TrM W X (.pointer pl) l → TrM W X (.pointer pr) r → W.heap[nb]? = some (rnodeO s (.pointer pl) (.pointer pr) H (l.size + 1 + r.size : Nat) (l.by_ + s.size + r.by_ : Nat) (l.ru + (rs s).length + r.ru : Nat)) → TrM W X (.pointer (some ⟨nb, 0, none⟩)) (.node l s r)) := fun W a b d => ⟨nb, _, _, rfl, HNX.out, by rw [HH.out]; exact d, a, b⟩
  have HLB : Hid (∀ W W', Kept (fun q => q = nb) W W' → w.heap.size ≤ W.heap.size → True) := fun _ _ _ _ => trivial
  obtain ⟨a1, ha1⟩ : ∃ n, l.size + 1 + r.size = n := ⟨_, rfl⟩
  obtain ⟨a2, ha2⟩ : ∃ n, l.by_ + s.size + r.by_ = n := ⟨_, rfl⟩
  obtain ⟨a3, ha3⟩ : ∃ n, l.ru + (rs s).length + r.ru = n := ⟨_, rfl⟩
  obtain ⟨d1, hd1⟩ : ∃ n, l.size + 1 = n := ⟨_, rfl⟩
  obtain ⟨d2, hd2⟩ : ∃ n, l.by_ + s.size = n := ⟨_, rfl⟩
  obtain ⟨d3, hd3⟩ : ∃ n, l.ru + (rs s).length = n := ⟨_, rfl⟩
  rw [ha1, ha2, ha3] at HPB HFIN
  rw [hd1, hd2, hd3] at HPA HPB
  clear ha1 ha2 ha3 hd1 hd2 hd3 HLB
  go_wp2_with (first
    | (go_at_call 39; refine cA.mono ?_; rintro e w1 ⟨rfl, hk1⟩; have HK1 := Lib.hid (HK0.out.trans hk1); have HN1 := Lib.hid ((hk1.block _ (heap_lt HN0.out) id).trans HN0.out); have HK01 := Lib.hid hk1; clear hk1 cA; have cO := own_any nb s w1 (cell_of_row _ _ _ _ _ _ HN1.out) hs)
    | (go_at_call 47; refine cO.mono ?_; rintro e w2 ⟨rfl, hk2⟩; have HK02 := Lib.hid (HK01.out.trans hk2); clear hk2 cO; have cP := HPA.out w2)
    | (go_at_call 46; refine cP.mono ?_; rintro e w3 ⟨rfl, hk3⟩; have HK03 := Lib.hid (HK02.out.trans hk3); clear hk3 cP; have cB := sum_any r (.pointer pr) X w3 (TrM.keptF HK03.out HR0.out))
    | (go_at_call 39; refine cB.mono ?_; rintro e w4 ⟨rfl, hk4⟩; have HK04 := Lib.hid (HK03.out.trans hk4); clear hk4 cB; have cQ := HPB.out w4)
    | (go_at_call 46; refine cQ.mono ?_; rintro e w5 ⟨rfl, hk5⟩; have HK05 := Lib.hid (HK04.out.trans hk5); clear hk5 cQ; have HN5 := Lib.hid ((HK05.out.block _ (heap_lt HN0.out) id).trans HN0.out); have g4 := cell_of_row _ nb 4 _ _ _ HN5.out; have g5 := cell_of_row _ nb 5 _ _ _ HN5.out; have g6 := cell_of_row _ nb 6 _ _ _ HN5.out; have z4 := frozen_of (i := 4) HN5.out; have z5 := frozen_of (i := 5) HN5.out; have z6 := frozen_of (i := 6) HN5.out))
  have hks : Kept (fun q => q = nb) w5 (((w5.setCell ⟨nb, 4, none⟩ (.int .i64 a1)).setCell ⟨nb, 5, none⟩ (.int .i64 a2)).setCell ⟨nb, 6, none⟩ (.int .i64 a3)) := (((Kept.refl (fun q => q = nb) w5).setCell (p := ⟨nb, 4, none⟩) rfl _).setCell (p := ⟨nb, 5, none⟩) rfl _).setCell (p := ⟨nb, 6, none⟩) rfl _
  have hset : (((w5.setCell ⟨nb, 4, none⟩ (.int .i64 a1)).setCell ⟨nb, 5, none⟩ (.int .i64 a2)).setCell ⟨nb, 6, none⟩ (.int .i64 a3)).heap[nb]? = some (rnodeO s (.pointer pl) (.pointer pr) H a1 a2 a3) := (heap_set (heap_set (heap_set HN5.out _) _) _).trans rfl
  go_ret
  refine ⟨⟨_, rfl, HFIN.out _ ?_ ?_ hset⟩, (HK0.out.trans HK05.out).fresh hks (fun q h1 h2 => by have := HNB.out; omega)⟩
  · exact TrM.keptN (((HK0.out.trans HK05.out).any (S := fun q => q = nb)).trans hks) (fun q h1 h2 => by have := HNB.out; omega) HL.out
  · exact TrM.keptN (((HK0.out.trans HK05.out).any (S := fun q => q = nb)).trans hks) (fun q h1 h2 => by have := HNB.out; omega) HR.out
end Go.Proofs.YtdgbaeliabaneaaDoor
