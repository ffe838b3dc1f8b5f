/-
  ELEMENTS: those of a first text, of the program; the reference's text of elements, and which may be.
-/
import Derived.Test.YtlminkbaafjloaaDoorOdB
set_option linter.unusedVariables false
namespace Go.Proofs.YtlminkbaafjloaaDoor
open Go Go.RowKit

/-- The iterator set on. -/
def setIter (w : World) (g : Nat) (s : ByteArray) (pos : Nat) : World := { w with heap := w.heap.setIfInBounds g (.stringIter s pos) }
theorem run_next_at (w : World) (g : Nat) (s : ByteArray) (pos : Nat) (ty : TypeId) (hg : w.heap[g]? = some (.stringIter s pos)) (hp : pos < s.size) :
    (Instr.next (.pointer (some ⟨g, 0, none⟩)) true ty).run Tryd.prog w = .ok (.tuple #[.bool true, .int .i64 pos, .int .i32 (Utf8.decode s pos).1]) (setIter w g s (pos + (Utf8.decode s pos).2)) := by
  simp only [Instr.next, getObj, setObj, Sem.run_bind, Sem.run, hg, Result.andThen, hp, if_true]
  simp [goInt, setIter]
theorem run_next_done (w : World) (g : Nat) (s : ByteArray) (pos : Nat) (ty : TypeId) (hg : w.heap[g]? = some (.stringIter s pos)) (hp : ¬ pos < s.size) :
    (Instr.next (.pointer (some ⟨g, 0, none⟩)) true ty).run Tryd.prog w = .ok (.tuple #[.bool false]) w := by
  simp [Instr.next, getObj, Sem.run, hg, hp]
theorem iter_same {w : World} {g : Nat} {o : Obj} {s : ByteArray} {pos : Nat} (h : w.heap[g]? = some o) : (setIter w g s pos).heap[g]? = some (.stringIter s pos) := by
  have := heap_lt h
  simp [setIter, this]
theorem iter_far {w : World} {g b : Nat} {s : ByteArray} {pos : Nat} (h : b ≠ g) : (setIter w g s pos).heap[b]? = w.heap[b]? := by
  simp [setIter, Ne.symm h]
theorem Kept.iter (w : World) (g : Nat) (s : ByteArray) (pos : Nat) : Kept (fun b => b = g) w (setIter w g s pos) :=
  ⟨rfl, rfl, rfl, by simp [setIter], fun k _ hk => iter_far hk⟩
theorem iterPos_at {w : World} {g : Nat} {s : ByteArray} {pos : Nat} (h : w.heap[g]? = some (.stringIter s pos)) : w.iterPos g = pos := by
  unfold World.iterPos
  rw [h]
/-- The runes from a byte on, by what stands there. -/
theorem rune_step {s : ByteArray} {t : List Int} {pos j : Nat} (h : Utf.runes (s.data.toList.drop pos) = t.drop j) (hp : pos < s.size) : t[j]? = some ((Utf8.decode s pos).1 : Int) ∧ Utf.runes (s.data.toList.drop (pos + (Utf8.decode s pos).2)) = t.drop (j + 1) ∧ pos < pos + (Utf8.decode s pos).2 := by
  have e := rune_at s pos hp
  rw [h] at e
  have hl : j < t.length := by
    by_cases hl : j < t.length
    · exact hl
    · rw [List.drop_eq_nil_of_le (by omega)] at e; cases e
  rw [List.drop_eq_getElem_cons hl] at e
  injection e with e1 e2
  exact ⟨by rw [List.getElem?_eq_getElem hl, e1], e2.symm, by have := Lib.decode_width_pos s pos hp; omega⟩
theorem rune_stop {s : ByteArray} {t : List Int} {pos j : Nat} (h : Utf.runes (s.data.toList.drop pos) = t.drop j) (hp : ¬ pos < s.size) (hj : j ≤ t.length) : j = t.length := by
  rw [rune_end s pos hp] at h
  have := congrArg List.length h
  simp at this
  omega
theorem Oe.keptS {S : Nat → Prop} {w w' : World} {B : Nat} {v : Value} {L : List ElemS} (h : Oe w B v L) (hk : Kept S w w') (hs : ∀ k, v.ownBlock = some k → ¬ S k) : Oe w' B v L := by
  refine ⟨h.1, ?_⟩
  rcases h.2 with hn | ⟨g, cap, cur, e, hb, hg, rest⟩
  · exact .inl hn
  · exact .inr ⟨g, cap, cur, e, hb, (hk.block g (heap_lt hg) (hs g (by rw [e]; rfl))).trans hg, rest⟩
theorem Oe.form {w : World} {B : Nat} {v : Value} {L : List ElemS} (h : Oe w B v L) : ∃ A c, v = .slice A L.length c := by
  rcases h.2 with ⟨hv, h0⟩ | ⟨g0, cap, cur, hv, _⟩
  · exact ⟨none, 0, by rw [hv, h0]⟩
  · exact ⟨some ⟨g0, 0, none⟩, cap, hv⟩
/-- What the program tells of a first text. -/
def PFirst (w' : World) (B : Nat) (s : ByteArray) (e : Ending) : Prop := (mayB s = true ∧ (rs s).length ≤ 200 ∧ ∃ v, e = .returned (.tuple #[v, .int .i64 0]) ∧ Oe w' B v (EL (rs s))) ∨ (mayB s = true ∧ ¬ (rs s).length ≤ 200 ∧ e = .returned (.tuple #[.slice none 0 0, .int .i64 4])) ∨ (mayB s = false ∧ e = .returned (.tuple #[.slice none 0 0, .int .i64 1]))
set_option maxRecDepth 100000 in
set_option maxHeartbeats 8000000 in
theorem pfirst_any (s : ByteArray) (w : World) (hs : s.size ≤ 140737488351232) (hT : Tabs w) :
    Calls Tryd.prog 8 #[.string s] w fun e w' => PFirst w' w.heap.size s e ∧ Kept (fun _ => False) w w' := by
  obtain ⟨i0, hi, hz0, hz1, hz2⟩ := info_parts info_elem
  have cL := plen_any s w hs hT
  cases hm : mayB s with
  | false =>
    rw [if_neg (by rw [hm]; decide)] at cL
    have HM := Lib.hid hm
    clear hT hm hs
    go_enter Tryd.func8, Tryd.ntmps8
    go_wp2_with (go_at_call 24; refine cL.mono ?_; clear cL; rintro e w1 ⟨rfl, hk1⟩; have HK1 := Lib.hid hk1; clear hk1)
    go_ret2
    exact ⟨.inr (.inr ⟨HM.out, rfl⟩), HK1.out⟩
  | true =>
    rw [if_pos hm] at cL
    have hsz := mayB_size hm
    have hrs := rs_runey (mayB_valid hm)
    have HM := Lib.hid hm
    have HRS := Lib.hid hrs
    have hrz : Utf.runes (s.data.toList.drop 0) = (rs s).drop 0 := rfl
    have HRZ := Lib.hid hrz
    have HT0 : Hid (rs s = rs s) := rfl
    obtain ⟨t, ht⟩ : ∃ t, rs s = t := ⟨_, rfl⟩
    rw [ht] at HRS HRZ cL
    have HTT := Lib.hid ht
    obtain ⟨n, hn⟩ : ∃ n, t.length = n := ⟨_, rfl⟩
    rw [hn] at cL
    have HN := Lib.hid hn
    clear hT hs hrs hrz hm ht hn HT0
    by_cases h200 : n ≤ 200
    · have HIF : Hid (n ≤ 200) := h200
      have b0 : decide (200 < n) = false := decide_eq_false (by omega)
      have b01 : decide ((200 : Int) < (n : Int)) = false := decide_eq_false (by omega)
      have cMk := fun (W : World) => run_make_own (P := Tryd.prog) W W.heap.size 22 56 i0 (.agg #[.int .i64 0, .int .i64 0, .int .i64 0, .bool false]) 4 Tryd.underlying22 hi hz0 hz1 .i64 .i64 n (by rw [hz2]; omega) (by unfold maxLen; omega) (Nat.le_refl _)
      go_enter Tryd.func8, Tryd.ntmps8
      go_upto_region 7 with (go_at_call 24; refine cL.mono ?_; clear cL; rintro e w1 ⟨rfl, hk1⟩; have HK1 := Lib.hid hk1; obtain ⟨w2, hmk, hown2, hgr2⟩ := cMk w1; clear hk1 cMk)
      have HK2 : Hid (Kept (fun _ => False) w1 w2) := (Kept.refl _ w1).grown hgr2
      have hk3 : Kept (fun _ => False) w1 (w2.iter s 0) := HK2.out.alloc (.stringIter s 0)
      have HIT : Hid ((w2.iter s 0).heap[w2.heap.size]? = some (.stringIter s 0)) := heap_alloc_new w2 _
      have HK3 := Lib.hid hk3
      have hlt2 : w1.heap.size < w2.heap.size := by
        rcases hown2.2 with ⟨hv, _⟩ | ⟨g, cap, cur, hv, _, hg, _⟩
        · cases hv
        · have := heap_lt hg
          injection hv with hv1 hv2 hv3
          injection hv1 with hv1
          injection hv1 with hv1 _ _
          omega
      have hown3 : Oe (w2.iter s 0) w1.heap.size (.slice (some ⟨w1.heap.size, 0, none⟩) 0 n) [] := World.ownsRow.alloc hown2 (.stringIter s 0)
      have HO3 := Lib.hid hown3
      clear hmk hown2 hgr2 hk3 hown3
      obtain ⟨B, hB⟩ : ∃ B, w1.heap.size = B := ⟨_, rfl⟩
      rw [hB] at HO3 hlt2
      have HB := Lib.hid hB
      have hNE : ∀ k, (Value.slice (some ⟨B, 0, none⟩) 0 n).ownBlock = some k → k ≠ w2.heap.size := fun k hk => by
        have : B = k := by simpa [Value.ownBlock] using hk
        omega
      have HNE := Lib.hid hNE
      have HGB : Hid (w1.heap.size < w2.heap.size) := by show _ < _; omega
      have HBW : Hid (w.heap.size ≤ B) := by show _ ≤ _; rw [← hB]; exact HK1.out.size
      clear hNE
      go_wp2_with fail
      rw [hB]
      clear hB
      generalize w2.iter s 0 = w3 at *
      generalize w2.heap.size = g at *
      go_loopw [6] (fun v wr => ∃ (j pos : Nat) (A0 : Option Addr) (c0 : Nat), v = .slice A0 j c0 ∧ j ≤ n ∧ wr.heap[g]? = some (.stringIter s pos) ∧ Utf.runes (s.data.toList.drop pos) = t.drop j ∧ Oe wr B v (EL (t.take j)) ∧ (∀ k, v.ownBlock = some k → k ≠ g) ∧ Kept (fun _ => False) w1 wr) (fun _ wr => s.size - wr.iterPos g)
      case atStart => exact ⟨0, 0, some ⟨B, 0, none⟩, n, rfl, Nat.zero_le _, HIT.out, HRZ.out, HO3.out, HNE.out, HK3.out⟩
      case round =>
        obtain ⟨j, pos, A0, c0, rfl, hj, hit, hrn, hown, hne, hkept⟩ := hrel
        have HK := Lib.hid hkept
        have HI := Lib.hid hit
        have HRN := Lib.hid hrn
        clear hkept
        by_cases hp : pos < s.size
        · obtain ⟨hx, hrn', hlt⟩ := rune_step hrn hp
          have hjn : j < n := by
            have := HN.out
            by_cases hjn : j < t.length
            · omega
            · rw [List.getElem?_eq_none (by omega)] at hx; cases hx
          have hnx := fun ty => run_next_at wr g s pos ty hit hp
          obtain ⟨x, hxd⟩ : ∃ x : Int, ((Utf8.decode s pos).1 : Int) = x := ⟨_, rfl⟩
          obtain ⟨p', hp'⟩ : ∃ p', pos + (Utf8.decode s pos).2 = p' := ⟨_, rfl⟩
          rw [hxd] at hx
          rw [hp'] at hrn' hlt
          simp only [hxd, hp'] at hnx
          have hxr := HRS.out.at_ hx
          have e32 : IntKind.i64.wrap x = x := IntWalk.i64_in _ ⟨by omega, by omega⟩
          have hIi := iter_same (s := s) (pos := p') hit
          have hKi : Kept (fun b => b = g) wr (setIter wr g s p') := Kept.iter wr g s p'
          have hOi := hown.keptS hKi (fun k hk e => hne k hk e)
          have hgB : g < wr.heap.size := heap_lt hit
          obtain ⟨wi, hwi⟩ : ∃ wi, setIter wr g s p' = wi := ⟨_, rfl⟩
          simp only [hwi] at hnx
          rw [hwi] at hIi hKi hOi
          have HKi : Hid (Kept (fun _ => False) w1 wi) := HK.out.fresh hKi (fun k hk e => by have e : k = g := e; have := HGB.out; omega)
          have HIi := Lib.hid hIi
          have HE := Lib.hid (EL_take hx)
          have HRN' := Lib.hid hrn'
          have HLT := Lib.hid hlt
          have hLL : (EL (t.take j)).length ≤ n := by rw [EL_len, List.length_take]; omega
          have hLE : (EL (t.take j)).length = j := by rw [EL_len, List.length_take]; have := HN.out; omega
          have hBw : B ≤ wi.heap.size := by have := HB.out; have := HKi.out.size; omega
          clear hxd hp' hx hrn' hlt hit hrn hKi hIi hwi hown
          have HNE2 := Lib.hid hne
          clear hne
          generalize EL (t.take j) = L at *
          subst hLE
          go_wp2_with (at_builtin; refine wpList_append_own_at _ rfl (.tmp 26) (.tmp 34) 22 rfl B 56 i0 (.agg #[.int .i64 0, .int .i64 0, .int .i64 0, .bool false]) 4 32 Tryd.underlying22 hi hz0 hz1 hz2 rfl (by decide) _ _ _ rfl (World.ownsRow.alloc hOi _) ⟨_, 0, none⟩ 1 1 (ElemS.vs ⟨(L.length : Int) + 1, 0, x, false⟩) rfl rfl four_cells four_one (by unfold maxLen; omega) (by omega) (by have := HB.out; simp <;> omega) ?_; intro v5 w5 hown5 hgrow5 _ hat5; have HO5 := Lib.hid (Oe.snoc hown5); have HK5 := Lib.hid (Kept.grew (HKi.out.alloc _) hgrow5 (fun q hq => by have := (Oe.lt hOi q hq).1; have := HB.out; omega)); have hi5 : w5.heap[g]? = some (.stringIter s p') := (hgrow5.block g (by have := heap_lt HIi.out; simp; omega) (fun e => HNE2.out g e.symm rfl)).trans ((heap_alloc_old wi _ (heap_lt HIi.out)).trans HIi.out); have HI5 := Lib.hid hi5; have hn5 : ∀ k, v5.ownBlock = some k → k ≠ g := fun k hk => hat5.elim (fun e => HNE2.out k (e.symm.trans hk)) (fun e => by have e2 := Option.some.inj (e.symm.trans hk); have := heap_lt HIi.out; simp at e2; omega); have HN5 := Lib.hid hn5; clear hi5 hn5 hown5 hgrow5 hat5)
          go_roundw
          case rel =>
            obtain ⟨A5, c5, e5⟩ := HO5.out.form
            exact ⟨L.length + 1, p', A5, c5, by rw [e5, List.length_append]; rfl, hjn, HI5.out, HRN'.out, by rw [HE.out]; exact HO5.out, HN5.out, HK5.out⟩
          case measure => rw [iterPos_at HI5.out, iterPos_at HI.out]; have := HLT.out; omega
        · have hnx := fun ty => run_next_done wr g s pos ty hit hp
          obtain rfl : j = n := by have := rune_stop hrn hp (by have := HN.out; omega); have := HN.out; omega
          have hall : t.take j = t := List.take_of_length_le (by rw [HN.out]; exact Nat.le_refl _)
          rw [hall] at hown
          clear hall
          go_wp2_with fail
          go_ret2
          exact ⟨.inl ⟨HM.out, by rw [HTT.out, HN.out]; exact HIF.out, _, rfl, by rw [HTT.out]; exact hown.mono HBW.out⟩, HK1.out.trans HK.out⟩
    · have HIF : Hid (¬ n ≤ 200) := h200
      have b0 : decide (200 < n) = true := decide_eq_true (by omega)
      have b01 : decide ((200 : Int) < (n : Int)) = true := decide_eq_true (by omega)
      go_enter Tryd.func8, Tryd.ntmps8
      go_wp2_with (go_at_call 24; refine cL.mono ?_; clear cL; rintro e w1 ⟨rfl, hk1⟩; have HK1 := Lib.hid hk1; clear hk1)
      go_ret2
      exact ⟨.inr (.inl ⟨HM.out, by rw [HTT.out, HN.out]; exact HIF.out, rfl⟩), HK1.out⟩
end Go.Proofs.YtlminkbaafjloaaDoor
