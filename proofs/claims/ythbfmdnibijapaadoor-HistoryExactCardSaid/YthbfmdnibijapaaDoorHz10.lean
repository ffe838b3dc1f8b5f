/-
  TREES: the eldest leaf.
  TREES: the root dropped; one node less.
-/
import Derived.Test.YthbfmdnibijapaaDoorHz09
import Derived.Test.YthbfmdnibijapaaDoorHz04
import Derived.Test.YthbfmdnibijapaaDoorHz08
set_option linter.unusedVariables false
namespace Go.Proofs.YthbfmdnibijapaaDoor
open Go Go.RowKit

theorem nchild_any (e : NodeS) (sb : Nat) (q : Int) (w : World) (hq : w.cell? ⟨sb, 0, none⟩ = some (.int .i64 q)) : Calls Tryd.prog 83 #[nodeV e, .pointer (some ⟨sb, 0, none⟩)] w fun e' w' => e' = .returned (.bool (e.pa == q)) ∧ Kept (fun _ => False) w w' := by
  have hK0 : Hid (Kept (fun _ => False) w (w.alloc (nodeO e))) := (Kept.refl _ w).alloc _
  have hq2 : (w.alloc (nodeO e)).cell? ⟨sb, 0, none⟩ = some (.int .i64 q) := cell_kept hK0.out hq id
  go_enter Tryd.func83, Tryd.ntmps83
  go_wp2_with fail
  go_ret
  exact ⟨rfl, hK0.out⟩
set_option maxRecDepth 100000 in
set_option maxHeartbeats 4000000 in
theorem nindex_any (A : Option Addr) (n c : Nat) (L : List NodeS) (sb : Nat) (q : Int) (w : World) (hA : Ng w A n L) (hn : n ≤ 100000) (hq : w.cell? ⟨sb, 0, none⟩ = some (.int .i64 q)) :
    Calls Tryd.prog 56 #[.slice A n c, .func (.func 83) #[] #[.pointer (some ⟨sb, 0, none⟩)]] w fun e w' => (∃ z : Int, e = .returned (.int .i64 z) ∧ decide (0 ≤ z) = L.any (fun e => e.pa == q)) ∧ Kept (fun _ => False) w w' := by
  have HA := Lib.hid hA
  have HQ := Lib.hid hq
  have HLN : Hid (L.length = n) := hA.len
  obtain ⟨C, hC⟩ : ∃ C, L.any (fun e => e.pa == q) = C := ⟨_, rfl⟩
  rw [hC]
  have HC := Lib.hid hC
  clear hA hq hC
  go_enter Tryd.func56, Tryd.ntmps56
  go_wp2_with fail
  go_loopw [8] (fun v wr => ∃ k : Nat, k ≤ n ∧ v = .int .i64 k ∧ (∀ (j : Nat) (b : NodeS), j < k → L[j]? = some b → b.pa ≠ q) ∧ Kept (fun _ => False) w wr) (fun v _ => n - (intOf v).toNat)
  case atStart => exact ⟨0, Nat.zero_le _, rfl, (fun j b hj => absurd hj (Nat.not_lt_zero _)), Kept.refl _ _⟩
  case round =>
    obtain ⟨k, hk, rfl, hat, hkept⟩ := hrel
    have HK := Lib.hid hkept
    have HAT := Lib.hid hat
    clear hkept hat
    by_cases hlt : k < n
    · obtain ⟨ad, b, rfl, hb, h4⟩ := (HA.out.kept HK.out (fun _ _ => id)).at_ hlt
      have cR := nchild_any b sb q wr (cell_kept HK.out HQ.out id)
      have HB := Lib.hid hb
      obtain ⟨c0, c1, c2, c3⟩ := h4
      obtain ⟨x0, x1, x2, x3⟩ := b
      simp only at c0 c1 c2 c3 cR
      have b1 : decide (k < n) = true := decide_eq_true hlt
      have b2 : decide ((k : Int) < (n : Int)) = true := decide_eq_true (by omega)
      have t1 : (0 : Int) ≤ (k : Int) := by omega
      have t2 : (k : Int) < (n : Int) := by omega
      clear hb
      by_cases hr : x1 = q
      · have hv : (x1 == q) = true := by simp [hr]
        rw [hv] at cR
        have HV : Hid (C = true) := by
          show _ = _
          rw [← HC.out, List.any_eq_true]
          exact ⟨_, List.mem_of_getElem? HB.out, hv⟩
        clear hr hv
        go_wp2_with (go_at_call 83; refine cR.mono ?_; rintro e w2 ⟨rfl, hk2⟩; have HK2 := Lib.hid (HK.out.trans hk2); clear hk2 cR)
        go_ret
        exact ⟨⟨(k : Int), rfl, by rw [HV.out]; simp⟩, HK2.out⟩
      · have hv : (x1 == q) = false := by rw [beq_eq_false_iff_ne]; exact hr
        rw [hv] at cR
        have HR : Hid (∀ (j : Nat) (b : NodeS), j < k + 1 → L[j]? = some b → b.pa ≠ q) := fun j b hj hb => by
          by_cases e : j = k
          · subst e
            rw [HB.out] at hb
            injection hb with hb
            subst hb
            exact hr
          · exact HAT.out j b (by omega) hb
        clear hr hv
        go_wp2_with (go_at_call 83; refine cR.mono ?_; rintro e w2 ⟨rfl, hk2⟩; have HK2 := Lib.hid (HK.out.trans hk2); clear hk2 cR)
        go_roundw
        case rel => exact ⟨k + 1, by omega, by go_num, HR.out, HK2.out⟩
        case measure => simp [intOf] <;> omega
    · obtain rfl : k = n := by omega
      have b1 : decide (k < k) = false := decide_eq_false (by omega)
      have b2 : decide ((k : Int) < (k : Int)) = false := decide_eq_false (by omega)
      have HV : Hid (C = false) := by
        show _ = _
        rw [← HC.out, List.any_eq_false]
        intro x hx h
        obtain ⟨j, hj, rfl⟩ := List.getElem_of_mem hx
        exact HAT.out j _ (by have := HLN.out; omega) (List.getElem?_eq_getElem hj) (by simpa using h)
      go_wp2_with fail
      go_ret
      exact ⟨⟨-1, rfl, by rw [HV.out]; rfl⟩, HK.out⟩
theorem ncontains_any (A : Option Addr) (n c : Nat) (L : List NodeS) (sb : Nat) (q : Int) (w : World) (hA : Ng w A n L) (hn : n ≤ 100000) (hq : w.cell? ⟨sb, 0, none⟩ = some (.int .i64 q)) :
    Calls Tryd.prog 84 #[.slice A n c, .func (.func 83) #[] #[.pointer (some ⟨sb, 0, none⟩)]] w fun e w' => e = .returned (.bool (L.any (fun e => e.pa == q))) ∧ Kept (fun _ => False) w w' := by
  have cI := nindex_any A n c L sb q w hA hn hq
  obtain ⟨C, hC⟩ : ∃ C, L.any (fun e => e.pa == q) = C := ⟨_, rfl⟩
  rw [hC] at cI ⊢
  clear hA hq hC
  go_enter Tryd.func84, Tryd.ntmps84
  go_wp2_with (go_at_call 56; refine cI.mono ?_; rintro e w2 ⟨⟨z, rfl, hz⟩, hk2⟩; clear cI)
  go_ret
  exact ⟨rfl, hk2⟩
/-- A leaf that is neither Cur nor the root. -/
def lfB (L : List NodeS) (cur : Int) (i : Nat) : Bool := match L[i]? with
  | none => false
  | some e => e.sq != cur && !(L.drop (i + 1)).any (fun x => x.pa == e.sq)
/-- The eldest leaf's place; 0: there is none. -/
def elf (L : List NodeS) (cur : Int) : Nat := ((List.range L.length).find? (fun i => decide (1 ≤ i) && lfB L cur i)).getD 0
theorem elf_hit {L : List NodeS} {cur : Int} {i : Nat} (h1 : 1 ≤ i) (h2 : i < L.length) (h3 : lfB L cur i = true) (h4 : ∀ k, 1 ≤ k → k < i → lfB L cur k = false) : elf L cur = i := by
  unfold elf
  have e : (List.range L.length).find? (fun i => decide (1 ≤ i) && lfB L cur i) = some i := by
    rw [List.find?_range_eq_some]
    refine ⟨by simp [h1, h3], by simpa using h2, fun j hj => ?_⟩
    by_cases h : 1 ≤ j
    · simp [h4 j h hj]
    · simp [h]
  rw [e]
  rfl
theorem elf_miss {L : List NodeS} {cur : Int} (h4 : ∀ k, 1 ≤ k → k < L.length → lfB L cur k = false) : elf L cur = 0 := by
  unfold elf
  have e : (List.range L.length).find? (fun i => decide (1 ≤ i) && lfB L cur i) = none := by
    rw [List.find?_range_eq_none]
    intro j hj
    by_cases h : 1 ≤ j
    · simp [h4 j h hj]
    · simp [h]
  rw [e]
  rfl
theorem Ng.drop {w : World} {ad : Addr} {n c : Nat} {L : List NodeS} (h : Ng w (some ad) n L) (hc : n ≤ c) (m : Nat) : Ng w (if c = m then some ad else (some ad).map (·.add (m * 4))) (n - m) (L.drop m) := by
  refine ⟨by rw [List.length_drop, h.len], fun k e he => ?_⟩
  rw [List.getElem?_drop] at he
  obtain ⟨hk, h4⟩ := h.nd he
  rw [if_neg (by omega)]
  refine ⟨_, rfl, ?_⟩
  have e : (ad.add (m * 4)).add (k * 4) = ad.add ((m + k) * 4) := by
    unfold Addr.add
    by_cases h1 : m * 4 = 0
    · rw [if_pos h1, show m = 0 by omega, Nat.zero_add]
    · rw [if_neg h1, if_neg (show ¬ (m + k) * 4 = 0 by omega)]
      by_cases h2 : k * 4 = 0
      · rw [if_pos h2, show (m + k) * 4 = m * 4 by omega]
      · rw [if_neg h2]
        simp only
        congr 1
        omega
  rw [e]
  exact h4
set_option maxRecDepth 100000 in
set_option maxHeartbeats 4000000 in
theorem eldest_any (ad : Addr) (n c : Nat) (L : List NodeS) (cur : Int) (w : World) (hA : Ng w (some ad) n L) (hnc : n ≤ c) (hn : n ≤ 100000) (hn1 : 1 ≤ n) (hT : Tabs w) :
    Calls Tryd.prog 69 #[treeV (.slice (some ad) n c) cur] w fun r w' => r = .returned (.int .i64 (elf L cur : Nat)) ∧ Kept (fun _ => False) w w' := by
  have hl := hA.len
  have HK0 : Hid (Kept (fun _ => False) w (w.alloc (treeO (.slice (some ad) n c) cur))) := (Kept.refl _ w).alloc _
  have HI0 := Lib.hid (trh_new (c := c) (cur := cur) hT hA)
  obtain ⟨tb, htb⟩ : ∃ tb, w.heap.size = tb := ⟨_, rfl⟩
  have HTB := Lib.hid htb
  rw [htb] at HI0
  have HHL := Lib.hid hl
  obtain ⟨R, hR⟩ : ∃ R, elf L cur = R := ⟨_, rfl⟩
  rw [hR]
  have HR := Lib.hid hR
  clear htb hA hT hl hR
  go_enter Tryd.func69, Tryd.ntmps69
  go_upto_region 1 with fail
  simp only [HTB.out]
  simp only [treeO] at HI0 HK0
  generalize w.alloc _ = w0 at *
  go_wp2_with fail
  go_loopw [3] (fun v wr => ∃ i : Nat, 1 ≤ i ∧ i ≤ n ∧ v = .int .i64 i ∧ (∀ k, 1 ≤ k → k < i → lfB L cur k = false) ∧ Kept (fun _ => False) w0 wr) (fun v _ => n - (intOf v).toNat)
  case atStart => exact ⟨1, Nat.le_refl _, hn1, rfl, (fun k h1 h2 => by omega), Kept.refl _ _⟩
  case round =>
    obtain ⟨i, hi1, hin, rfl, hat, hkr⟩ := hrel
    have HAT := Lib.hid hat
    have HIr := Lib.hid (HI0.out.kept hkr)
    have HKr := Lib.hid hkr
    clear hat hkr
    obtain ⟨t0, t1⟩ := HIr.out.cells
    by_cases hlt : i < n
    · obtain ⟨e, he⟩ : ∃ e, L[i]? = some e := ⟨_, List.getElem?_eq_getElem (by rw [HHL.out]; exact hlt)⟩
      have f0 := (HIr.out.ng.nd he).2.c0
      have b1 : decide (i < n) = true := decide_eq_true hlt
      have b2 : decide ((i : Int) < (n : Int)) = true := decide_eq_true (by omega)
      have b3 : (0 : Int) ≤ (i : Int) := by omega
      have b4 : (i : Int) < (n : Int) := by omega
      have HE := Lib.hid he
      obtain ⟨sq, pa, at_, tx⟩ := e
      simp only at f0
      have HS : Hid ((wr.alloc (.cells #[.int .i64 sq] 3)).cell? ⟨wr.heap.size, 0, none⟩ = some (.int .i64 sq)) := by show _ = _; rw [cell_of_row _ _ _ _ _ _ (heap_alloc_new wr _)]; rfl
      have HI1 := Lib.hid (HIr.out.kept ((Kept.refl (fun _ => False) wr).alloc (.cells #[.int .i64 sq] 3)))
      have HK1 := Lib.hid (HKr.out.trans ((Kept.refl (fun _ => False) wr).alloc (.cells #[.int .i64 sq] 3)))
      clear he
      go_upto_region 5 with fail
      clear f0 b1 b2 t0 t1
      generalize wr.alloc (.cells #[.int .i64 sq] 3) = w1 at *
      generalize wr.heap.size = sb at *
      obtain ⟨t0, t1⟩ := HI1.out.cells
      have s0 := HS.out
      by_cases hsc : sq = cur
      · have hne : (sq != cur) = false := by simp [hsc]
        have HF : Hid (∀ k, 1 ≤ k → k < i + 1 → lfB L cur k = false) := fun k h1 h2 => by
          by_cases hk : k = i
          · subst hk
            unfold lfB
            rw [HE.out]
            simp [hsc]
          · exact HAT.out k h1 (by omega)
        clear hsc
        go_wp2_with fail
        go_roundw
        case rel => exact ⟨i + 1, by omega, by omega, by go_num, HF.out, HK1.out⟩
        case measure => simp [intOf]; omega
      · have hne : (sq != cur) = true := by simp [hsc]
        have wi : IntKind.i64.wrap ((i : Int) + 1) = (i : Int) + 1 := IntWalk.i64_in _ ⟨by omega, by omega⟩
        have hcut := fun u => run_ncut_l u (some ad) n c (i + 1) ((i : Int) + 1) (by omega) (by omega) hnc
        have hD := HI1.out.ng.drop hnc (i + 1)
        have cC := ncontains_any _ (n - (i + 1)) (c - (i + 1)) _ sb sq w1 hD (by omega) s0
        obtain ⟨C, hC⟩ : ∃ C, (L.drop (i + 1)).any (fun x => x.pa == sq) = C := ⟨_, rfl⟩
        rw [hC] at cC
        have HLF : Hid (lfB L cur i = !C) := by
          show _ = _
          unfold lfB
          rw [HE.out]
          simp only
          rw [hC, hne, Bool.true_and]
        generalize (if c = i + 1 then some ad else (some ad).map (·.add ((i + 1) * 4))) = AD at *
        clear hC hsc hD
        cases C with
        | true =>
          have HF : Hid (∀ k, 1 ≤ k → k < i + 1 → lfB L cur k = false) := fun k h1 h2 => by
            by_cases hk : k = i
            · subst hk
              rw [HLF.out]
              rfl
            · exact HAT.out k h1 (by omega)
          go_wp2_with (go_at_call 84; refine cC.mono ?_; rintro e w2 ⟨rfl, hk2⟩; have HK2 := Lib.hid (HK1.out.trans hk2); clear hk2 cC)
          go_roundw
          case rel => exact ⟨i + 1, by omega, by omega, by go_num, HF.out, HK2.out⟩
          case measure => simp [intOf]; omega
        | false =>
          have HF : Hid (R = i) := by
            show _ = _
            rw [← HR.out]
            exact elf_hit hi1 (by rw [HHL.out]; exact hlt) HLF.out HAT.out
          go_wp2_with (go_at_call 84; refine cC.mono ?_; rintro e w2 ⟨rfl, hk2⟩; have HK2 := Lib.hid (HK1.out.trans hk2); clear hk2 cC)
          go_ret
          exact ⟨by rw [HF.out]; rfl, HK0.out.trans HK2.out⟩
    · obtain rfl : i = n := by omega
      have b1 : decide ((i : Int) < (i : Int)) = false := by simp
      have b2 : decide (i < i) = false := by simp
      have HF : Hid (R = 0) := by
        show _ = _
        rw [← HR.out]
        exact elf_miss (fun k h1 h2 => HAT.out k h1 (by rw [HHL.out] at h2; exact h2))
      go_wp2_with fail
      go_ret
      exact ⟨by rw [HF.out]; rfl, HK0.out.trans HKr.out⟩
end Go.Proofs.YthbfmdnibijapaaDoor
namespace Go.Proofs.YthbfmdnibijapaaDoor
open Go Go.RowKit

theorem flatN_set : ∀ {L : List NodeS} {i : Nat} {e e' : NodeS} {f : Nat} {u : Value}, L[i]? = some e → f < 4 → e'.vs = e.vs.set f u → flatN (L.set i e') = (flatN L).set (i * 4 + f) u
  | [], i, e, e', f, u, h, _, _ => by simp at h
  | q :: L, 0, e, e', f, u, h, hf, hv => by
    simp only [List.getElem?_cons_zero, Option.some.injEq] at h
    subst h
    unfold flatN
    have hl : q.vs.length = 4 := rfl
    rw [List.set_cons_zero, List.flatMap_cons, List.flatMap_cons, hv, List.set_append_left _ _ (by omega), Nat.zero_mul, Nat.zero_add]
  | q :: L, i + 1, e, e', f, u, h, hf, hv => by
    have ih := flatN_set (L := L) (i := i) (e := e) (e' := e') (by simpa using h) hf hv
    unfold flatN at *
    have hl : q.vs.length = 4 := rfl
    rw [List.set_cons_succ, List.flatMap_cons, List.flatMap_cons, ih, List.set_append_right _ _ (by omega), hl, show (i + 1) * 4 + f - 4 = i * 4 + f by omega]
theorem take_set_lt {α : Type} (l : List α) (n i : Nat) (a : α) : (l.set i a).take n = (l.take n).set i a := by
  rw [List.take_set]
/-- A cell of a node set anew. -/
theorem Og.set {w : World} {g n cap : Nat} {L : List NodeS} (h : Og w g n cap L) {i f : Nat} {e e' : NodeS} {u : Value} (he : L[i]? = some e) (hf : f < 4) (hv : e'.vs = e.vs.set f u) : Og (w.setCell ⟨g, i * 4 + f, none⟩ u) g n cap (L.set i e') := by
  obtain ⟨cs, h1, h2, h3⟩ := h.row
  refine ⟨by rw [List.length_set, h.len], h.le, h.mx, _, heap_set h1 u, by simp [h2], ?_⟩
  rw [Array.toList_setIfInBounds, take_set_lt, h3, flatN_set he hf hv]
theorem set_same {l : List NodeS} {i : Nat} {a : NodeS} (h : l[i]? = some a) : l.set i a = l := by
  apply List.ext_getElem?
  intro j
  rw [List.getElem?_set]
  split
  · rename_i hj
    subst hj
    split
    · exact h.symm
    · rename_i hj
      rw [List.getElem?_eq_none (by omega)] at h
      cases h
  · rfl
/-- One whose parent was a node that went. -/
def rp (was : Int) (e : NodeS) : NodeS := if e.pa = was then { e with pa := 0 } else e
/-- What dropping the root leaves. -/
def drp : List NodeS → List NodeS
  | _ :: c :: rest => ({ c with sq := 0, pa := -1 } :: rest).map (rp c.sq)
  | l => l
def drc (cur : Int) : List NodeS → Int
  | _ :: c :: _ => if cur = c.sq then 0 else cur
  | _ => cur
theorem mid_map {was : Int} {L : List NodeS} {i : Nat} {e : NodeS} (he : L[i]? = some e) : ((L.take i).map (rp was) ++ L.drop i).set i (rp was e) = (L.take (i + 1)).map (rp was) ++ L.drop (i + 1) := by
  have hl : i < L.length := by
    rcases Nat.lt_or_ge i L.length with h | h
    · exact h
    · rw [List.getElem?_eq_none h] at he; cases he
  have hd : L.drop i = e :: L.drop (i + 1) := by
    rw [List.drop_eq_getElem_cons hl]
    congr 1
    exact Option.some.inj (by rw [← List.getElem?_eq_getElem hl]; exact he)
  have hlen : ((L.take i).map (rp was)).length = i := by rw [List.length_map, List.length_take]; omega
  rw [hd, List.set_append_right _ _ (by omega), hlen, Nat.sub_self, List.set_cons_zero, List.take_add_one, he, List.map_append]
  simp
theorem mid_get {was : Int} {L : List NodeS} {i : Nat} {e : NodeS} (he : L[i]? = some e) : ((L.take i).map (rp was) ++ L.drop i)[i]? = some e := by
  have hl : i < L.length := by
    rcases Nat.lt_or_ge i L.length with h | h
    · exact h
    · rw [List.getElem?_eq_none h] at he; cases he
  have hlen : ((L.take i).map (rp was)).length = i := by rw [List.length_map, List.length_take]; omega
  rw [List.getElem?_append_right (by omega), hlen, Nat.sub_self, List.getElem?_drop, Nat.add_zero]
  exact he
/-- A tree in a variable, its nodes in a block of one's own. -/
structure Tvr (w : World) (xb g n cap : Nat) (L : List NodeS) (cur : Int) : Prop where
  box : w.heap[xb]? = some (treeO (.slice (some ⟨g, 0, none⟩) n cap) cur)
  og : Og w g n cap L
  ne : g ≠ xb
theorem Tvr.kept {S : Nat → Prop} {w w' : World} {xb g n cap : Nat} {L : List NodeS} {cur : Int} (h : Tvr w xb g n cap L cur) (hk : Kept S w w') (hx : ¬ S xb) (hg : ¬ S g) : Tvr w' xb g n cap L cur :=
  ⟨(hk.block _ (heap_lt h.box) hx).trans h.box, h.og.kept hk hg, h.ne⟩
theorem Tvr.set {w : World} {xb g n cap : Nat} {L : List NodeS} {cur : Int} (h : Tvr w xb g n cap L cur) {i f : Nat} {e e' : NodeS} {u : Value} (he : L[i]? = some e) (hf : f < 4) (hv : e'.vs = e.vs.set f u) : Tvr (w.setCell ⟨g, i * 4 + f, none⟩ u) xb g n cap (L.set i e') cur :=
  ⟨(heap_far h.ne.symm u).trans h.box, h.og.set he hf hv, h.ne⟩
set_option maxRecDepth 100000 in
set_option maxHeartbeats 4000000 in
theorem dropRoot_any (xb g k cap : Nat) (r c : NodeS) (rest : List NodeS) (cur : Int) (w : World) (hX : Tvr w xb g (k + 2) cap (r :: c :: rest) cur) (hk : rest.length = k) (hn : k ≤ 1000) :
    Calls Tryd.prog 71 #[.pointer (some ⟨xb, 0, none⟩)] w fun e w' => e = .returned (.tuple #[]) ∧ Tvr w' xb g (k + 1) cap (drp (r :: c :: rest)) (drc cur (r :: c :: rest)) ∧ Kept (fun q => q = g ∨ q = xb) w w' := by
  have HX := Lib.hid hX
  have hne := hX.ne
  have cD := ndelete_any g cap 0 (k + 1) [] (c :: rest) r w rfl (by simp [hk]) (by have := hX.og; rw [show 0 + 1 + (k + 1) = k + 2 by omega]; exact this) (by omega)
  rw [show ((0 : Nat) : Int) = 0 from rfl, Int.zero_add] at cD
  simp only [List.nil_append, Nat.zero_add] at cD
  rw [show 1 + (k + 1) = k + 2 by omega] at cD
  obtain ⟨t0, t1, t2, t3⟩ := tree_facts hX.box
  obtain ⟨n, hnn⟩ : ∃ n, k + 1 = n := ⟨_, rfl⟩
  obtain ⟨n2, hnn2⟩ : ∃ n, k + 2 = n := ⟨_, rfl⟩
  rw [hnn, hnn2] at cD
  rw [hnn2] at t0
  rw [hnn]
  have hn0 : 0 < n := by omega
  have hn9 : n ≤ 1001 := by omega
  have hlr : Hid (rest.length + 1 = n) := by show _ = _; omega
  clear hX hnn hnn2 hk
  go_enter Tryd.func71, Tryd.ntmps71
  go_upto_region 1 with (go_at_call 70; refine cD.mono ?_; rintro e w1 ⟨rfl, hO, hk1⟩; have HO := Lib.hid hO; have HK1 := Lib.hid hk1; have HB1 := Lib.hid ((hk1.block xb (heap_lt HX.out.box) (fun e => hne e.symm)).trans HX.out.box); have q0 : w1.cell? ⟨xb, 0, none⟩ = _ := (tree_facts HB1.out).1; have q2 := (tree_facts HB1.out).2.2.1; clear hO hk1 cD t0 t1 t2 t3)
  have HV2 : Hid (Tvr (w1.setCell ⟨xb, 0, none⟩ (.slice (some ⟨g, 0, none⟩) n cap)) xb g n cap (c :: rest) cur) := ⟨heap_set HB1.out _, HO.out.kept ((Kept.refl (fun q => q = xb) w1).setCell (p := ⟨xb, 0, none⟩) rfl _) hne, hne⟩
  have HK2 : Hid (Kept (fun q => q = g ∨ q = xb) w (w1.setCell ⟨xb, 0, none⟩ (.slice (some ⟨g, 0, none⟩) n cap))) := ((HK1.out.mono (fun _ _ h => .inl h)).setCell (p := ⟨xb, 0, none⟩) (.inr rfl) _)
  clear q0 q2
  generalize w1.setCell ⟨xb, 0, none⟩ (.slice (some ⟨g, 0, none⟩) n cap) = w2 at *
  obtain ⟨t0, t1, t2, t3⟩ := tree_facts HV2.out.box
  have hd := (HV2.out.og.ng.nd (i := 0) rfl).2
  rw [Nat.zero_mul] at hd
  have f0 : w2.cell? ⟨g, 0, none⟩ = some (.int .i64 c.sq) := by have := hd.c0; rwa [show (⟨g, 0, none⟩ : Addr).add 0 = ⟨g, 0, none⟩ from rfl] at this
  have hd1 : w2.cell? ⟨g, 1, none⟩ = some (.int .i64 c.pa) := by have := hd.c1; rwa [show (⟨g, 0, none⟩ : Addr).add 0 = ⟨g, 0, none⟩ from rfl] at this
  clear hd
  have b1 : (0 : Int) < (n : Int) := by omega
  go_upto_region 2 with fail
  have HXB : Hid (∀ W, Kept (fun q => q = g) w2 W → W.cell? ⟨xb, 0, none⟩ = some (.slice (some ⟨g, 0, none⟩) n cap)) := fun W hk => cell_kept hk t0 (fun e => hne e.symm)
  have HAB : ∀ u v, Kept (fun q => q = g) w2 ((w2.setCell ⟨g, 0, none⟩ u).setCell ⟨g, 1, none⟩ v).drew := fun u v => (((Kept.refl (fun q => q = g) w2).setCell (p := ⟨g, 0, none⟩) rfl _).setCell (p := ⟨g, 1, none⟩) rfl _).drew
  have HBA : ∀ u v, Kept (fun q => q = g) w2 ((w2.setCell ⟨g, 1, none⟩ u).setCell ⟨g, 0, none⟩ v).drew := fun u v => (((Kept.refl (fun q => q = g) w2).setCell (p := ⟨g, 1, none⟩) rfl _).setCell (p := ⟨g, 0, none⟩) rfl _).drew
  have K0 := HXB.out w2.drew (Kept.refl (fun q => q = g) w2).drew
  have KA := Lib.hid (fun u => HXB.out (w2.setCell ⟨g, 0, none⟩ u).drew ((Kept.refl (fun q => q = g) w2).setCell (p := ⟨g, 0, none⟩) rfl u).drew)
  have KB := Lib.hid (fun u => HXB.out (w2.setCell ⟨g, 1, none⟩ u).drew ((Kept.refl (fun q => q = g) w2).setCell (p := ⟨g, 1, none⟩) rfl u).drew)
  have KAB := Lib.hid (fun u v => HXB.out _ (HAB u v))
  have KBA := Lib.hid (fun u v => HXB.out _ (HBA u v))
  have f1 := hd1
  have z0 := HV2.out.og.free 0
  have z1 := HV2.out.og.free 1
  have HHA := Lib.hid HAB
  have HHB := Lib.hid HBA
  clear HAB HBA t1 t2 t3 hd1
  go_region_held3 (fun (W : World) => W.cell? ⟨xb, 0, none⟩ = some (.slice (some ⟨g, 0, none⟩) n cap))
    (first | with_reducible exact KAB.out _ _ | with_reducible exact KBA.out _ _ | with_reducible exact KA.out _ | with_reducible exact KB.out _ | with_reducible exact K0) (fail)
  have HV3 : Hid (Tvr ((w2.setCell ⟨g, 0, none⟩ (.int .i64 0)).setCell ⟨g, 1, none⟩ (.int .i64 (-1))).drew xb g n cap ({ c with sq := 0, pa := -1 } :: rest) cur) := by
    have h1 := HV2.out.set (i := 0) (f := 0) (e := c) (e' := { c with sq := 0 }) (u := .int .i64 0) rfl (by omega) rfl
    have h2 := h1.set (i := 0) (f := 1) (e := { c with sq := 0 }) (e' := { c with sq := 0, pa := -1 }) (u := .int .i64 (-1)) rfl (by omega) rfl
    exact h2.kept (Kept.refl (fun _ => False) _).drew id id
  have HK3 : Hid (Kept (fun q => q = g ∨ q = xb) w ((w2.setCell ⟨g, 0, none⟩ (.int .i64 0)).setCell ⟨g, 1, none⟩ (.int .i64 (-1))).drew) := ((HK2.out.setCell (p := ⟨g, 0, none⟩) (.inl rfl) _).setCell (p := ⟨g, 1, none⟩) (.inl rfl) _).drew
  clear K0 KA KB KAB KBA f0 f1 z0 z1 HHA HHB HXB t0
  generalize ((w2.setCell ⟨g, 0, none⟩ (.int .i64 0)).setCell ⟨g, 1, none⟩ (.int .i64 (-1))).drew = w3 at *
  obtain ⟨M, hM⟩ : ∃ M : List NodeS, { c with sq := 0, pa := -1 } :: rest = M := ⟨_, rfl⟩
  rw [hM] at HV3
  have HDRP : Hid (drp (r :: c :: rest) = M.map (rp c.sq)) := by show _ = _; rw [← hM]; rfl
  have HDRC : Hid (drc cur (r :: c :: rest) = if cur = c.sq then 0 else cur) := rfl
  have HML : Hid (M.length = n) := HV3.out.og.len
  obtain ⟨was, hwas⟩ : ∃ was, c.sq = was := ⟨_, rfl⟩
  rw [hwas] at HDRP HDRC
  simp only [hwas]
  clear hM hwas
  obtain ⟨t0, t1, t2, t3⟩ := tree_facts HV3.out.box
  go_upto_region 4 with fail
  clear t0 t1 t2 t3
  go_loopw [36] (fun v wr => ∃ i : Nat, i ≤ n ∧ v = .int .i64 i ∧ Tvr wr xb g n cap ((M.take i).map (rp was) ++ M.drop i) cur ∧ Kept (fun q => q = g ∨ q = xb) w wr) (fun v _ => n - (intOf v).toNat)
  case atStart => exact ⟨0, Nat.zero_le _, rfl, by simpa using HV3.out, HK3.out⟩
  case round =>
    obtain ⟨i, hi, rfl, hv, hkr⟩ := hrel
    have HV := Lib.hid hv
    have HK := Lib.hid hkr
    clear hkr
    obtain ⟨t0, t1, t2, t3⟩ := tree_facts hv.box
    by_cases hlt : i < n
    · obtain ⟨e, he⟩ : ∃ e, M[i]? = some e := ⟨_, List.getElem?_eq_getElem (by rw [HML.out]; exact hlt)⟩
      have hmg := mid_get (was := was) he
      have hms := mid_map (was := was) he
      have hd := (hv.og.ng.nd hmg).2
      have f1 := hd.c1
      have z1 := hv.og.free (i * 4 + 1)
      have b1 : decide (i < n) = true := decide_eq_true hlt
      have b2 : decide ((i : Int) < (n : Int)) = true := decide_eq_true (by omega)
      have b3 : (0 : Int) ≤ (i : Int) := by omega
      have b4 : (i : Int) < (n : Int) := by omega
      have eA : (⟨g, 0, none⟩ : Addr).add (i * 4) = ⟨g, i * 4, none⟩ := by rw [addr_add, Nat.zero_add]
      rw [eA] at f1
      have HMG := Lib.hid hmg
      have HMS := Lib.hid hms
      clear hd hv he hmg hms
      by_cases hp : e.pa = was
      · have hpe : (e.pa == was) = true := by simp [hp]
        have HST : Hid (Tvr (wr.setCell ⟨g, i * 4 + 1, none⟩ (.int .i64 0)) xb g n cap ((M.take (i + 1)).map (rp was) ++ M.drop (i + 1)) cur) := by
          have h := HV.out.set (f := 1) (e' := rp was e) (u := .int .i64 0) HMG.out (by omega) (by unfold rp; rw [if_pos hp]; rfl)
          rw [HMS.out] at h
          exact h
        have HKT : Hid (Kept (fun q => q = g ∨ q = xb) w (wr.setCell ⟨g, i * 4 + 1, none⟩ (.int .i64 0))) := HK.out.setCell (p := ⟨g, i * 4 + 1, none⟩) (.inl rfl) _
        clear hp
        go_wp2_with fail
        go_roundw
        case rel => exact ⟨i + 1, by omega, by go_num, HST.out, HKT.out⟩
        case measure => simp [intOf]; omega
      · have hpe : (e.pa == was) = false := by rw [beq_eq_false_iff_ne]; exact hp
        have HST : Hid (Tvr wr xb g n cap ((M.take (i + 1)).map (rp was) ++ M.drop (i + 1)) cur) := by
          have h := HMS.out
          have h2 : rp was e = e := by unfold rp; rw [if_neg hp]
          have h3 := set_same HMG.out
          rw [h2, h3] at h
          rw [← h]
          exact HV.out
        clear hp
        go_wp2_with fail
        go_roundw
        case rel => exact ⟨i + 1, by omega, by go_num, HST.out, HK.out⟩
        case measure => simp [intOf]; omega
    · obtain rfl : i = n := by omega
      have b1 : decide ((i : Int) < (i : Int)) = false := by simp
      have b2 : decide (i < i) = false := by simp
      have hfin : (M.take i).map (rp was) ++ M.drop i = M.map (rp was) := by rw [List.take_of_length_le (by have := HML.out; omega), List.drop_of_length_le (by have := HML.out; omega), List.append_nil]
      rw [hfin] at hv HV
      clear hv
      by_cases hc : cur = was
      · have hce : (cur == was) = true := by simp [hc]
        have HDC : Hid (drc cur (r :: c :: rest) = 0) := by show _ = _; rw [HDRC.out, if_pos hc]
        have HST : Hid (Tvr (wr.setCell ⟨xb, 1, none⟩ (.int .i64 0)) xb g i cap (M.map (rp was)) 0) := ⟨heap_set HV.out.box _, HV.out.og.kept ((Kept.refl (fun q => q = xb) wr).setCell (p := ⟨xb, 1, none⟩) rfl _) HV.out.ne, HV.out.ne⟩
        have HKT : Hid (Kept (fun q => q = g ∨ q = xb) w (wr.setCell ⟨xb, 1, none⟩ (.int .i64 0))) := HK.out.setCell (p := ⟨xb, 1, none⟩) (.inr rfl) _
        clear hc hfin
        go_wp2_with fail
        go_end0
        refine ⟨rfl, ?_, HKT.out⟩
        rw [HDRP.out, HDC.out]
        exact HST.out
      · have hce : (cur == was) = false := by rw [beq_eq_false_iff_ne]; exact hc
        have HDC : Hid (drc cur (r :: c :: rest) = cur) := by show _ = _; rw [HDRC.out, if_neg hc]
        clear hc hfin
        go_wp2_with fail
        go_end0
        refine ⟨rfl, ?_, HK.out⟩
        rw [HDRP.out, HDC.out]
        exact HV.out
/-- One node less: the eldest leaf, or else the root. -/
def prn (L : List NodeS) (cur : Int) : List NodeS × Int := if elf L cur = 0 then (drp L, drc cur L) else (L.eraseIdx (elf L cur), cur)
theorem elf_lt {L : List NodeS} {cur : Int} (h : 0 < L.length) : elf L cur < L.length := by
  unfold elf
  cases hf : (List.range L.length).find? (fun i => decide (1 ≤ i) && lfB L cur i) with
  | none => exact h
  | some i => have := List.mem_of_find?_eq_some hf; simpa using this
theorem prn_len {L : List NodeS} {cur : Int} (h : 2 ≤ L.length) : (prn L cur).1.length + 1 = L.length := by
  unfold prn
  split
  · match L, h with
    | r :: c :: rest, _ => simp [drp]
  · have := elf_lt (L := L) (cur := cur) (by omega)
    rw [List.length_eraseIdx]
    split <;> omega
theorem split_at {L : List NodeS} {i : Nat} (h : i < L.length) : ∃ pre e post, L = pre ++ e :: post ∧ pre.length = i ∧ L.eraseIdx i = pre ++ post := by
  refine ⟨L.take i, L[i], L.drop (i + 1), ?_, by rw [List.length_take]; omega, List.eraseIdx_eq_take_drop_succ ..⟩
  rw [← List.drop_eq_getElem_cons h, List.take_append_drop]
set_option maxRecDepth 100000 in
set_option maxHeartbeats 4000000 in
theorem prune_any (xb g n cap : Nat) (L : List NodeS) (cur : Int) (w : World) (hX : Tvr w xb g n cap L cur) (hn2 : 2 ≤ n) (hn : n ≤ 1000) (hT : Tabs w) (hg : 2 ≤ g) (hx : 2 ≤ xb) :
    Calls Tryd.prog 60 #[.pointer (some ⟨xb, 0, none⟩)] w fun e w' => e = .returned (.tuple #[]) ∧ Tvr w' xb g (n - 1) cap (prn L cur).1 (prn L cur).2 ∧ Kept (fun q => q = g ∨ q = xb) w w' := by
  have hl := hX.og.len
  have HX := Lib.hid hX
  have hne := hX.ne
  have cE := eldest_any ⟨g, 0, none⟩ n cap L cur w hX.og.ng hX.og.le (by omega) (by omega) hT
  have hlt := elf_lt (L := L) (cur := cur) (by omega)
  obtain ⟨R, hR⟩ : ∃ R, elf L cur = R := ⟨_, rfl⟩
  rw [hR] at cE hlt
  have HR := Lib.hid hR
  obtain ⟨t0, t1, t2, t3⟩ := tree_facts hX.box
  by_cases h0 : R = 0
  · have hpr : Hid (prn L cur = (drp L, drc cur L)) := by show _ = _; unfold prn; rw [HR.out, if_pos h0]
    subst h0
    have hb : decide ((0 : Int) < ((0 : Nat) : Int)) = false := by decide
    obtain ⟨r, c, rest, rfl⟩ : ∃ r c rest, L = r :: c :: rest := by
      match L, hl with
      | [], hl => simp at hl; omega
      | [r], hl => simp at hl; omega
      | r :: c :: rest, _ => exact ⟨r, c, rest, rfl⟩
    have hrl : rest.length + 2 = n := by simpa using hl
    have cD := fun W (hW : Tvr W xb g n cap (r :: c :: rest) cur) => dropRoot_any xb g (n - 2) cap r c rest cur W (by rw [show n - 2 + 2 = n by omega]; exact hW) (by omega) (by omega)
    rw [show n - 2 + 1 = n - 1 by omega] at cD
    have HCD := Lib.hid cD
    clear hX hl hR hT cD hlt hrl
    go_enter Tryd.func60, Tryd.ntmps60
    go_wp2_with (first
      | (go_at_call 69; refine cE.mono ?_; rintro e w1 ⟨rfl, hk1⟩; have HK1 := Lib.hid hk1; have HX1 := Lib.hid (HX.out.kept hk1 id id); clear hk1 cE t0 t1 t2 t3)
      | (go_at_call 71; refine (HCD.out _ HX1.out).mono ?_; rintro e w2 ⟨rfl, hv2, hk2⟩; have HV2 := Lib.hid hv2; have HK2 := Lib.hid (HK1.out.any.trans hk2); clear hv2 hk2))
    go_end0
    refine ⟨rfl, ?_, HK2.out⟩
    rw [hpr.out]
    exact HV2.out
  · have hpr : Hid (prn L cur = (L.eraseIdx R, cur)) := by show _ = _; unfold prn; rw [HR.out, if_neg h0]
    obtain ⟨pre, e, post, hLe, hpl, her⟩ := split_at (L := L) (i := R) (by omega)
    have hpo : R + 1 + post.length = n := by have := congrArg List.length hLe; simp at this; omega
    have cD := fun W (hW : Og W g n cap L) => ndelete_any g cap R (n - (R + 1)) pre post e W hpl (by omega) (by rw [show R + 1 + (n - (R + 1)) = n by omega, ← hLe]; exact hW) (by omega)
    rw [show R + 1 + (n - (R + 1)) = n by omega, show R + (n - (R + 1)) = n - 1 by omega, ← her] at cD
    have HCD := Lib.hid cD
    have hb : decide ((0 : Int) < (R : Int)) = true := decide_eq_true (by omega)
    have hb2 : decide (0 < R) = true := decide_eq_true (by omega)
    have wr1 : IntKind.i64.wrap ((R : Int) + 1) = (R : Int) + 1 := IntWalk.i64_in _ ⟨by omega, by omega⟩
    obtain ⟨m, hm⟩ : ∃ m, n - 1 = m := ⟨_, rfl⟩
    rw [hm] at HCD ⊢
    clear hX hl hR hT cD hlt hpo hLe hpl her hm h0
    go_enter Tryd.func60, Tryd.ntmps60
    go_wp2_with (first
      | (go_at_call 69; refine cE.mono ?_; rintro e w1 ⟨rfl, hk1⟩; have HK1 := Lib.hid hk1; have HX1 := Lib.hid (HX.out.kept hk1 id id); clear hk1 cE t0 t1 t2 t3; obtain ⟨t0, t1, t2, t3⟩ := tree_facts HX1.out.box)
      | (go_at_call 70; refine (HCD.out _ HX1.out.og).mono ?_; rintro e w2 ⟨rfl, hv2, hk2⟩; have HV2 := Lib.hid hv2; have HB2 := Lib.hid ((hk2.block xb (heap_lt HX1.out.box) (fun e => hne e.symm)).trans HX1.out.box); have HK2 : Hid (Kept (fun q => q = g ∨ q = xb) w w2) := HK1.out.any.trans (hk2.mono (fun _ _ h => .inl h)); clear hv2 hk2 t0 t1 t2 t3; obtain ⟨t0, t1, t2, t3⟩ := tree_facts HB2.out))
    go_end0
    refine ⟨rfl, ?_, HK2.out.setCell (p := ⟨xb, 0, none⟩) (.inr rfl) _⟩
    rw [hpr.out]
    exact ⟨heap_set HB2.out _, HV2.out.kept ((Kept.refl (fun q => q = xb) w2).setCell (p := ⟨xb, 0, none⟩) rfl _) hne, hne⟩
end Go.Proofs.YthbfmdnibijapaaDoor
