/-
  ROWS THAT MAY BE: formed, fits, New.
-/
import Derived.Test.YtdgbaeliabaneaaDoorRoX
import Derived.Test.YtdgbaeliabaneaaDoorRoP
import Derived.Test.YtdgbaeliabaneaaDoorTabsK
set_option linter.unusedVariables false
namespace Go.Proofs.YtdgbaeliabaneaaDoor
open Go Go.RowKit

def rowB (s : ByteArray) : Bool := !hasNZ s && Lib.validD s.data.toList
/-- May rows be? -/
structure MayL (L : List ByteArray) : Prop where
  row : L.all rowB = true
  lo : 1 ≤ L.length
  hi : L.length ≤ 1100
  by_ : byL L + L.length ≤ 4001
theorem byL_mem {L : List ByteArray} {s : ByteArray} (h : s ∈ L) : s.size ≤ byL L := by
  induction L with
  | nil => cases h
  | cons x L ih =>
    simp only [byL]
    rcases List.mem_cons.1 h with rfl | h
    · omega
    · have := ih h; omega
theorem ruL_byL (L : List ByteArray) : ruL L ≤ byL L := by
  induction L with
  | nil => exact Nat.le_refl _
  | cons x L ih => simp only [byL, ruL]; have := rs_len x; omega
theorem OkL.of {L : List ByteArray} (h1 : L.length ≤ 1000000) (h2 : byL L ≤ 1000000) : OkL L :=
  ⟨fun s hs => ⟨by have := byL_mem hs; omega, by have := byL_mem hs; have := rs_len s; omega⟩, by omega, by omega, by have := ruL_byL L; omega⟩
theorem byL_take_le (L : List ByteArray) (k : Nat) : byL (L.take k) ≤ byL L := by
  have := byL_app (L.take k) (L.drop k)
  rw [List.take_append_drop] at this
  omega
theorem byL_take_succ {L : List ByteArray} {k : Nat} {s : ByteArray} (h : L[k]? = some s) : byL (L.take (k + 1)) = byL (L.take k) + s.size := by
  rw [List.take_add_one, h, byL_app]; simp [byL]
set_option maxRecDepth 100000 in
set_option maxHeartbeats 4000000 in
theorem formed_any (A : Option Addr) (n c : Nat) (L : List ByteArray) (w : World) (h : Strs w A n L) (hn : n ≤ 1000000) (hb : byL L ≤ 1000000) (hT : Tabs w) :
    Calls Tryd.prog 25 #[.slice A n c] w fun e w' => ((L.all rowB = true ∧ e = .returned (.tuple #[.int .i64 (byL L : Nat), .bool true])) ∨ (L.all rowB = false ∧ e = .returned (.tuple #[.int .i64 0, .bool false]))) ∧ Kept (fun _ => False) w w' := by
  have HS := Lib.hid h
  have HT := Lib.hid hT
  have HB := Lib.hid hb
  clear h hT hb
  go_enter Tryd.func25, Tryd.ntmps25
  go_wp2_with fail
  go_loopw [2, 8] (fun v i wr => ∃ k : Nat, k ≤ n ∧ i = .int .i64 k ∧ v = .int .i64 (byL (L.take k) : Nat) ∧ (L.take k).all rowB = true ∧ Kept (fun _ => False) w wr) (fun _ i _ => n - (intOf i).toNat)
  case atStart => exact ⟨0, Nat.zero_le _, rfl, rfl, rfl, Kept.refl _ _⟩
  case round =>
    obtain ⟨k, hk, rfl, rfl, hall, hkept⟩ := hrel
    have HK := Lib.hid hkept
    have HALL := Lib.hid hall
    clear hkept hall
    by_cases hkn : k < n
    · obtain ⟨ad, x, rfl, hx, f0, _⟩ := (HS.out.kept HK.out).cell hkn
      have hxs : x.size ≤ 1000000 := by have := byL_mem (List.mem_of_getElem? hx); have := HB.out; omega
      have cC := contains_any x wr (by omega)
      have hbs := byL_take_succ hx
      have hbl := byL_take_le L (k + 1)
      have HAS : Hid ((L.take (k + 1)).all rowB = rowB x) := by
        show _ = _
        rw [List.take_add_one, hx, List.all_append, HALL.out]; simp
      have HNO : Hid (rowB x = false → L.all rowB = false) := fun e => by
        rw [← Bool.not_eq_true, List.all_eq_true]
        intro ha
        rw [ha x (List.mem_of_getElem? hx)] at e; cases e
      have HBS := Lib.hid hbs
      have e1 : IntKind.i64.wrap ((byL (L.take k) : Int) + (x.size : Int)) = ((byL (L.take (k + 1)) : Nat) : Int) := by
        rw [hbs, show (byL (L.take k) : Int) + (x.size : Int) = ((byL (L.take k) + x.size : Nat) : Int) by omega]
        exact IntWalk.i64_in _ ⟨by omega, by have := HB.out; omega⟩
      generalize byL (L.take k) = bk at *
      generalize hbk1 : byL (L.take (k + 1)) = bk1 at *
      have HBK := Lib.hid hbk1
      have b1 : decide (k < n) = true := decide_eq_true hkn
      have b2 : decide ((k : Int) < (n : Int)) = true := decide_eq_true (by omega)
      have t1 : (0 : Int) ≤ (k : Int) := by omega
      have t2 : (k : Int) < (n : Int) := by omega
      clear hx hbs hbl hbk1
      cases hz : hasNZ x with
      | true =>
        rw [hz] at cC
        have HR : Hid (rowB x = false) := by show _ = _; unfold rowB; rw [hz]; rfl
        clear hz
        go_wp2_with (go_at_call 41; refine cC.mono ?_; rintro e w1 ⟨rfl, hk1⟩; have HK1 := Lib.hid (HK.out.trans hk1); clear hk1 cC)
        refine bodyPost_ret (results_tmp2 rfl _ _ _) rfl ⟨.inr ⟨HNO.out HR.out, rfl⟩, HK1.out⟩
      | false =>
        rw [hz] at cC
        have cV : Hid (∀ W, Kept (fun _ => False) w W → Calls Tryd.prog 34 #[.string x] W fun e w' => e = .returned (.bool (Lib.validD x.data.toList)) ∧ Kept (fun _ => False) W w') := fun W hk => valid_any x W (by omega) (HT.out.kept hk id id)
        have HR : Hid (rowB x = Lib.validD x.data.toList) := by show _ = _; unfold rowB; rw [hz]; simp
        clear hz
        cases hv : Lib.validD x.data.toList with
        | true =>
          rw [hv] at HR cV
          clear hv
          go_wp2_with (first
            | (go_at_call 41; refine cC.mono ?_; rintro e w1 ⟨rfl, hk1⟩; have HK1 := Lib.hid (HK.out.trans hk1); clear hk1 cC; have cW := cV.out w1 HK1.out)
            | (go_at_call 34; refine cW.mono ?_; rintro e w2 ⟨rfl, hk2⟩; have HK2 := Lib.hid (HK1.out.trans hk2); clear hk2 cW))
          go_roundw
          case rel => exact ⟨k + 1, by omega, by go_num, by rw [HBK.out], by rw [HAS.out, HR.out], HK2.out⟩
          case measure => simp [intOf] <;> omega
        | false =>
          rw [hv] at HR cV
          clear hv
          go_wp2_with (first
            | (go_at_call 41; refine cC.mono ?_; rintro e w1 ⟨rfl, hk1⟩; have HK1 := Lib.hid (HK.out.trans hk1); clear hk1 cC; have cW := cV.out w1 HK1.out)
            | (go_at_call 34; refine cW.mono ?_; rintro e w2 ⟨rfl, hk2⟩; have HK2 := Lib.hid (HK1.out.trans hk2); clear hk2 cW))
          refine bodyPost_ret (results_tmp2 rfl _ _ _) rfl ⟨.inr ⟨HNO.out HR.out, rfl⟩, HK2.out⟩
    · obtain rfl : k = n := by omega
      have b1 : decide (k < k) = false := decide_eq_false (by omega)
      have b2 : decide ((k : Int) < (k : Int)) = false := decide_eq_false (by omega)
      have hL : L.take k = L := List.take_of_length_le (by rw [HS.out.1]; exact Nat.le_refl _)
      rw [hL] at HALL ⊢
      clear hL
      go_wp2_with fail
      refine bodyPost_ret (results_tmp2 rfl _ _ _) rfl ⟨.inl ⟨HALL.out, rfl⟩, HK.out⟩
set_option maxRecDepth 100000 in
theorem fits_any (r b : Int) (w : World) (h1 : -1000000000 ≤ r ∧ r ≤ 1000000000) (h2 : -1000000000 ≤ b ∧ b ≤ 1000000000) :
    Calls Tryd.prog 26 #[.int .i64 r, .int .i64 b] w fun e w' => ((1 ≤ r ∧ r ≤ 1100 ∧ b + r - 1 ≤ 4000) ∧ e = .returned (.bool true) ∨ ¬ (1 ≤ r ∧ r ≤ 1100 ∧ b + r - 1 ≤ 4000) ∧ e = .returned (.bool false)) ∧ w' = w := by
  by_cases c1 : 1 ≤ r
  · have d1 : decide (1 ≤ r) = true := decide_eq_true c1
    by_cases c2 : r ≤ 1100
    · have d2 : decide (r ≤ 1100) = true := decide_eq_true c2
      have e1 : IntKind.i64.wrap (b + r) = b + r := IntWalk.i64_in _ ⟨by omega, by omega⟩
      have e2 : IntKind.i64.wrap (b + r - 1) = b + r - 1 := IntWalk.i64_in _ ⟨by omega, by omega⟩
      by_cases c3 : b + r - 1 ≤ 4000
      · have d3 : decide (b + r - 1 ≤ 4000) = true := decide_eq_true c3
        have HC : Hid (1 ≤ r ∧ r ≤ 1100 ∧ b + r - 1 ≤ 4000) := ⟨c1, c2, c3⟩
        clear h1 h2 c1 c2 c3
        go_enter Tryd.func26, Tryd.ntmps26
        go_wp2
        go_ret
        exact ⟨.inl ⟨HC.out, rfl⟩, rfl⟩
      · have d3 : decide (b + r - 1 ≤ 4000) = false := decide_eq_false c3
        have HC : Hid (¬ (1 ≤ r ∧ r ≤ 1100 ∧ b + r - 1 ≤ 4000)) := fun h => c3 h.2.2
        clear h1 h2 c1 c2 c3
        go_enter Tryd.func26, Tryd.ntmps26
        go_wp2
        go_ret
        exact ⟨.inr ⟨HC.out, rfl⟩, rfl⟩
    · have d2 : decide (r ≤ 1100) = false := decide_eq_false c2
      have HC : Hid (¬ (1 ≤ r ∧ r ≤ 1100 ∧ b + r - 1 ≤ 4000)) := fun h => c2 h.2.1
      clear h1 h2 c1 c2
      go_enter Tryd.func26, Tryd.ntmps26
      go_wp2
      go_ret
      exact ⟨.inr ⟨HC.out, rfl⟩, rfl⟩
  · have d1 : decide (1 ≤ r) = false := decide_eq_false c1
    have HC : Hid (¬ (1 ≤ r ∧ r ≤ 1100 ∧ b + r - 1 ≤ 4000)) := fun h => c1 h.1
    clear h1 h2 c1
    go_enter Tryd.func26, Tryd.ntmps26
    go_wp2
    go_ret
    exact ⟨.inr ⟨HC.out, rfl⟩, rfl⟩
theorem MayL.ok {L : List ByteArray} (h : MayL L) : OkL L := OkL.of (by have := h.hi; omega) (by have := h.by_; omega)
/-- A new tree, where rows may be. -/
def NewT (w w' : World) (L : List ByteArray) (e : Ending) : Prop := (∃ T, e = .returned (.tuple #[.pointer (some ⟨T, 0, none⟩), .int .i64 0]) ∧ Tree w' T L ∧ w.heap.size ≤ T) ∧ Kept (fun _ => False) w w'
set_option maxRecDepth 100000 in
set_option maxHeartbeats 2000000 in
theorem new_yes (A : Option Addr) (n c : Nat) (L : List ByteArray) (w : World) (h : Strs w A n L) (hc : n ≤ c) (hm : MayL L) (hT : Tabs w) :
    Calls Tryd.prog 7 #[.slice A n c] w fun e w' => NewT w w' L e := by
  have hl := h.1
  have cF := (formed_any A n c L w h (by have := hm.hi; omega) (by have := hm.by_; omega) hT).mono (R' := fun e w' => e = .returned (.tuple #[.int .i64 (byL L : Nat), .bool true]) ∧ Kept (fun _ => False) w w') (by
    rintro e w' ⟨⟨_, rfl⟩ | ⟨h1, _⟩, hk⟩
    · exact ⟨rfl, hk⟩
    · rw [hm.row] at h1; cases h1)
  have cG : Hid (∀ W, Calls Tryd.prog 26 #[.int .i64 (n : Nat), .int .i64 (byL L : Nat)] W fun e w' => e = .returned (.bool true) ∧ w' = W) := fun W => (fits_any _ _ W (by have := hm.hi; omega) (by have := hm.by_; omega)).mono (by
    rintro e w' ⟨⟨_, rfl⟩ | ⟨h1, _⟩, hk⟩
    · exact ⟨rfl, hk⟩
    · exact absurd (by have := hm.hi; have := hm.by_; have := hm.lo; omega) h1)
  have cB : Hid (∀ W, Kept (fun _ => False) w W → Calls Tryd.prog 27 #[.slice A n c] W fun e w' => Built W w' L e) := fun W hk => build_any n L A n c W (Nat.le_refl _) (h.kept hk) hc hm.ok
  have HOK := Lib.hid hm.ok
  clear h hc hm hT hl
  generalize hb : byL L = bl at *
  clear hb
  go_enter Tryd.func7, Tryd.ntmps7
  go_wp2_with (first
    | (go_at_call 25; refine cF.mono ?_; rintro e w1 ⟨rfl, hk1⟩; have HK1 := Lib.hid hk1; clear hk1 cF; have cG1 := cG.out w1)
    | (go_at_call 26; refine cG1.mono ?_; rintro e w2 ⟨rfl, hw⟩; have hw2 := hw.symm; subst hw2; clear cG1; have cB1 := cB.out w1 HK1.out)
    | (go_at_call 27; refine cB1.mono ?_; rintro e w3 ⟨⟨v3, t3, rfl, hv3, r3, a3, _⟩, hk3⟩; have HK3 := Lib.hid (HK1.out.trans hk3); obtain ⟨p3, rfl⟩ := hv3.ptr; have HV3 : Hid (TreeOf w3 (.pointer p3) L) := ⟨t3, hv3, r3, a3⟩; clear cB1 hk3 hv3 r3 a3))
  refine bodyPost_ret (results_tmp2 rfl _ _ _) rfl ?_
  refine ⟨⟨w3.heap.size, rfl, ⟨⟨.pointer p3, heap_alloc_new w3 _, HV3.out.kept ((Kept.refl _ w3).alloc _)⟩, HOK.out⟩, HK3.out.size⟩, HK3.out.alloc _⟩
set_option maxRecDepth 100000 in
set_option maxHeartbeats 2000000 in
theorem new_no (A : Option Addr) (n c : Nat) (L : List ByteArray) (w : World) (h : Strs w A n L) (hn : n ≤ 1000000) (hb : byL L ≤ 1000000) (hm : ¬ MayL L) (hT : Tabs w) :
    Calls Tryd.prog 7 #[.slice A n c] w fun e w' => e = .returned (.tuple #[.pointer none, .int .i64 1]) ∧ Kept (fun _ => False) w w' := by
  have hl := h.1
  have cF := formed_any A n c L w h hn hb hT
  cases ha : L.all rowB with
  | false =>
    have cF := cF.mono (R' := fun e w' => e = .returned (.tuple #[.int .i64 0, .bool false]) ∧ Kept (fun _ => False) w w') (by
      rintro e w' ⟨⟨h1, _⟩ | ⟨_, rfl⟩, hk⟩
      · rw [ha] at h1; cases h1
      · exact ⟨rfl, hk⟩)
    clear h hn hb hm hT hl ha
    go_enter Tryd.func7, Tryd.ntmps7
    go_wp2_with (go_at_call 25; refine cF.mono ?_; rintro e w1 ⟨rfl, hk1⟩; have HK1 := Lib.hid hk1; clear hk1 cF)
    refine bodyPost_ret (results_tmp2 rfl _ _ _) rfl ⟨rfl, HK1.out⟩
  | true =>
    have cF := cF.mono (R' := fun e w' => e = .returned (.tuple #[.int .i64 (byL L : Nat), .bool true]) ∧ Kept (fun _ => False) w w') (by
      rintro e w' ⟨⟨_, rfl⟩ | ⟨h1, _⟩, hk⟩
      · exact ⟨rfl, hk⟩
      · rw [ha] at h1; cases h1)
    have cG : Hid (∀ W, Calls Tryd.prog 26 #[.int .i64 (n : Nat), .int .i64 (byL L : Nat)] W fun e w' => e = .returned (.bool false) ∧ w' = W) := fun W => (fits_any _ _ W (by omega) (by omega)).mono (by
      rintro e w' ⟨⟨h1, _⟩ | ⟨_, rfl⟩, hk⟩
      · exact absurd ⟨ha, by omega, by omega, by omega⟩ hm
      · exact ⟨rfl, hk⟩)
    clear h hn hb hm hT hl ha
    generalize hb : byL L = bl at *
    clear hb
    go_enter Tryd.func7, Tryd.ntmps7
    go_wp2_with (first
      | (go_at_call 25; refine cF.mono ?_; rintro e w1 ⟨rfl, hk1⟩; have HK1 := Lib.hid hk1; clear hk1 cF; have cG1 := cG.out w1)
      | (go_at_call 26; refine cG1.mono ?_; rintro e w2 ⟨rfl, hw⟩; have hw2 := hw.symm; subst hw2; clear cG1))
    refine bodyPost_ret (results_tmp2 rfl _ _ _) rfl ⟨rfl, HK1.out⟩
end Go.Proofs.YtdgbaeliabaneaaDoor
