/-
  ELEMENTS: those of a first text, of the reference and of the program; their text; the same.
-/
import Derived.Test.YtlminkbaafjloaaDoorOdA
import Derived.Test.YtlminkbaafjloaaDoorTxt
import Derived.Test.YtlminkbaafjloaaDoorTk2
import Derived.Test.YtlminkbaafjloaaDoorShelf2
import Derived.Shelf.Utf8.RuneCount
import Derived.BigQuiet
import Derived.Laws.Rows
set_option linter.unusedVariables false
namespace Go.Proofs.YtlminkbaafjloaaDoor
open Go Go.RowKit

/-- The elements of runes. -/
def EL (t : List Int) : List ElemS := t.zipIdx.map fun p => ⟨(p.2 : Int) + 1, 0, p.1, false⟩
theorem EL_nil : EL [] = [] := rfl
theorem EL_snoc (t : List Int) (r : Int) : EL (t ++ [r]) = EL t ++ [⟨(t.length : Int) + 1, 0, r, false⟩] := by
  unfold EL
  rw [List.zipIdx_append, List.map_append]
  simp
theorem EL_len (t : List Int) : (EL t).length = t.length := by simp [EL]
theorem EL_take {t : List Int} {k : Nat} {r : Int} (h : t[k]? = some r) : EL (t.take (k + 1)) = EL (t.take k) ++ [⟨(k : Int) + 1, 0, r, false⟩] := by
  have hk : k < t.length := by
    by_cases hk : k < t.length
    · exact hk
    · rw [List.getElem?_eq_none (by omega)] at h; cases h
  rw [List.take_add_one, h]
  show EL (t.take k ++ [r]) = _
  rw [EL_snoc, List.length_take, Nat.min_eq_left (by omega)]
theorem i32_rune {r : Int} (h : 0 ≤ r ∧ r ≤ 1114111) : IntKind.i32.wrap r = r := by
  rw [show IntKind.i32.wrap r = r from by
    simp only [IntKind.wrap, IntKind.bits, IntKind.signed]
    simp
    omega]
theorem count_from (s : ByteArray) : ∀ (b pos : Nat), s.size ≤ pos + b → Lib.runeCountFrom s b pos = (Utf.runes (s.data.toList.drop pos)).length
  | 0, pos, h => by rw [rune_end s pos (by omega)]; rfl
  | b + 1, pos, h => by
    by_cases hp : pos < s.size
    · have hw := Lib.decode_width_pos s pos hp
      have ih := count_from s b (pos + (Utf8.decode s pos).2) (by omega)
      have e : Lib.runeCountFrom s (b + 1) pos = 1 + Lib.runeCountFrom s b (pos + (Utf8.decode s pos).2) := by
        rw [Lib.runeCountFrom, if_pos hp]
      rw [rune_at s pos hp, List.length_cons, ← ih, e]
      omega
    · rw [rune_end s pos hp, Lib.runeCountFrom_end s _ pos hp]; rfl
theorem rcount_any (s : ByteArray) (w : World) (hs : s.size ≤ 1000000) : Calls Tryd.prog 45 #[.string s] w fun e w' => e = .returned (.int .i64 (rs s).length) ∧ Kept (fun _ => False) w w' := by
  have h := Any.utf8_RuneCountInString Tryd.lays195 s w (by omega)
  have e : Lib.runeCount s = (rs s).length := by
    have := count_from s s.size 0 (by omega)
    exact this
  rw [e] at h
  exact h.mono fun e w' ⟨he, pos, hw⟩ => ⟨he, by rw [hw]; exact (Kept.refl _ w).alloc _⟩
/-- How long a text is, or the error. -/
theorem plen_any (s : ByteArray) (w : World) (hs : s.size ≤ 140737488351232) (hT : Tabs w) :
    Calls Tryd.prog 24 #[.string s] w fun e w' => e = .returned (if mayB s = true then .tuple #[.int .i64 (rs s).length, .int .i64 0] else .tuple #[.int .i64 0, .int .i64 1]) ∧ Kept (fun _ => False) w w' := by
  have cC := check_any s w hs hT
  cases hm : mayB s with
  | false =>
    rw [if_neg (by rw [hm]; decide)] at cC
    rw [if_neg (by decide)]
    clear hT hm
    go_enter Tryd.func24, Tryd.ntmps24
    go_wp2_with (go_at_call 44; refine cC.mono ?_; clear cC; rintro e w1 ⟨rfl, hk1⟩; have HK1 := Lib.hid hk1; clear hk1)
    go_ret2
    exact ⟨rfl, HK1.out⟩
  | true =>
    have hz := mayB_size hm
    rw [if_pos hm] at cC
    rw [if_pos rfl]
    have cR := fun W => rcount_any s W (by omega)
    clear hT hm
    go_enter Tryd.func24, Tryd.ntmps24
    go_wp2_with (first
      | (go_at_call 44; refine cC.mono ?_; clear cC; rintro e w1 ⟨rfl, hk1⟩; have HK1 := Lib.hid hk1; clear hk1)
      | (go_at_call 45; refine (cR _).mono ?_; clear cR; rintro e w2 ⟨rfl, hk2⟩; have HK2 := Lib.hid (HK1.out.trans hk2); clear hk2))
    go_ret2
    exact ⟨rfl, HK2.out⟩
/-- What the reference tells of a first text. -/
def RFirst (w' : World) (B : Nat) (t : List Int) (e : Ending) : Prop := if t.length ≤ 200 then ∃ v, e = .returned (.tuple #[v, .bool true]) ∧ Oe w' B v (EL t) else e = .returned (.tuple #[.slice none 0 0, .bool false])
theorem Oe.mono {w : World} {B B' : Nat} {v : Value} {L : List ElemS} (h : Oe w B v L) (hb : B' ≤ B) : Oe w B' v L := by
  refine ⟨h.1, ?_⟩
  rcases h.2 with hn | ⟨g, cap, cur, e, hB, rest⟩
  · exact .inl hn
  · exact .inr ⟨g, cap, cur, e, Nat.le_trans hb hB, rest⟩
set_option maxRecDepth 100000 in
set_option maxHeartbeats 4000000 in
theorem rfirst_any (s : ByteArray) (w : World) (hm : mayB s = true) :
    Calls Tryd.prog 10 #[.string s] w fun e w' => RFirst w' w.heap.size (rs s) e ∧ Kept (fun _ => False) w w' := by
  obtain ⟨i0, hi, hz0, hz1, hz2⟩ := info_parts info_elem
  have hs := mayB_size hm
  obtain ⟨cap, w1, hcap, hcv, hk1, hlt, hR⟩ := conv_rs s w (by omega)
  have hrs := rs_runey (mayB_valid hm)
  generalize rs s = t at *
  have HK1 := Lib.hid hk1
  have HR := Lib.hid hR
  have HRS := Lib.hid hrs
  obtain ⟨B, hB⟩ : ∃ B, w1.heap.size = B := ⟨_, rfl⟩
  have HB := Lib.hid hB
  have HBW : Hid (w.heap.size ≤ B) := by show _ ≤ _; rw [← hB]; exact hk1.size
  clear hk1 hR hlt hB hrs hm
  obtain ⟨n, hn⟩ : ∃ n, t.length = n := ⟨_, rfl⟩
  rw [hn] at hcv HR hcap
  have HN := Lib.hid hn
  unfold RFirst
  rw [hn]
  clear hn
  by_cases h200 : n ≤ 200
  · have HIF : Hid (n ≤ 200) := h200
    have b0 : decide (200 < n) = false := decide_eq_false (by omega)
    have b01 : decide ((200 : Int) < (n : Int)) = false := decide_eq_false (by omega)
    go_enter Tryd.func10, Tryd.ntmps10
    go_wp2_with fail
    go_loopw [5, 6] (fun v i wr => ∃ k : Nat, k ≤ n ∧ i = .int .i64 k ∧ Oe wr B v (EL (t.take k)) ∧ Kept (fun _ => False) w1 wr) (fun _ i _ => n - (intOf i).toNat)
    case atStart => exact ⟨0, Nat.zero_le _, rfl, oe_nil _ _, Kept.refl _ _⟩
    case round =>
      obtain ⟨k, hk, rfl, hown, hkept⟩ := hrel
      have HK := Lib.hid hkept
      clear hkept
      by_cases hlt : k < n
      · obtain ⟨ad, x, ha, hx, hc⟩ := (HR.out.kept HK.out (fun _ _ => id)).cell hlt
        injection ha with ha
        subst ha
        rw [addr_add, Nat.zero_add] at hc
        have hxr := HRS.out.at_ hx
        have e32 : IntKind.i64.wrap x = x := IntWalk.i64_in _ ⟨by omega, by omega⟩
        have b1 : decide (k < n) = true := decide_eq_true hlt
        have b2 : decide ((k : Int) < (n : Int)) = true := decide_eq_true (by omega)
        have t1 : (0 : Int) ≤ (k : Int) := by omega
        have t2 : (k : Int) < (n : Int) := by omega
        have HE := Lib.hid (EL_take hx)
        have hLL : (EL (t.take k)).length ≤ n := by rw [EL_len, List.length_take]; omega
        have hBw : B ≤ wr.heap.size := by have := HB.out; have := HK.out.size; omega
        clear hx
        generalize EL (t.take k) = L at *
        go_wp2_with (at_builtin; refine wpList_append_own_at _ rfl (.tmp 18) (.tmp 28) 22 rfl B 56 i0 (.agg #[.int .i64 0, .int .i64 0, .int .i64 0, .bool false]) 4 32 Tryd.underlying22 hi hz0 hz1 hz2 rfl (by decide) _ _ _ rfl (World.ownsRow.alloc hown _) ⟨_, 0, none⟩ 1 1 (ElemS.vs ⟨(k : Int) + 1, 0, x, false⟩) rfl rfl four_cells four_one (by unfold maxLen; omega) (by omega) (by have := HB.out; simp <;> omega) ?_; intro v5 w5 hown5 hgrow5 _ hat5; have HO5 := Lib.hid (Oe.snoc hown5); have HK5 := Lib.hid (Kept.grew (HK.out.alloc _) hgrow5 (fun q hq => by have := (Oe.lt hown q hq).1; have := HB.out; omega)); clear hown5 hgrow5 hat5)
        go_roundw
        case rel => exact ⟨k + 1, by omega, by go_num, by rw [HE.out]; exact HO5.out, HK5.out⟩
        case measure => simp [intOf] <;> omega
      · obtain rfl : k = n := by omega
        have b1 : decide (k < k) = false := decide_eq_false (by omega)
        have b2 : decide ((k : Int) < (k : Int)) = false := decide_eq_false (by omega)
        have hall : t.take k = t := List.take_of_length_le (by rw [HN.out]; exact Nat.le_refl _)
        rw [hall] at hown
        clear hall
        go_wp2_with fail
        go_ret2
        exact ⟨⟨_, rfl, hown.mono HBW.out⟩, HK1.out.trans HK.out⟩
  · have HIF : Hid (¬ n ≤ 200) := h200
    have b0 : decide (200 < n) = true := decide_eq_true (by omega)
    have b01 : decide ((200 : Int) < (n : Int)) = true := decide_eq_true (by omega)
    go_enter Tryd.func10, Tryd.ntmps10
    go_wp2_with fail
    go_ret2
    exact ⟨rfl, HK1.out⟩
end Go.Proofs.YtlminkbaafjloaaDoor
