/-
  OPS: a number's bytes, appended to a call's own; the number that bytes are, read off a reader.
-/
import Derived.Test.YtpgicfbaefcbmaaDoorCdA
import Derived.Maps.AppendAt
set_option linter.unusedVariables false
namespace Go.Proofs.YtpgicfbaefcbmaaDoor
open Go Go.RowKit

/-- A byte, as it lies in memory. -/
def u8v (b : UInt8) : Value := .int .u8 (b.toNat : Int)
theorem info_u8 : (Tryd.prog.info? 5).map (fun i => (i.zero, i.size, i.bytes)) = some (some (.int .u8 0), 1, 1) := by kernel_rfl
theorem one_cells {W : World} {a : Value} {ty : TypeId} : ∀ j u, ([a] : List Value)[j]? = some u → (W.alloc (.cells #[a] ty)).cell? ((⟨W.heap.size, 0, none⟩ : Addr).add j) = some u := by
  intro j u hj
  rw [addr_add, cell_of_row _ _ _ _ _ _ (heap_alloc_new W _)]
  match j, hj with
  | 0, hj => simpa using hj
theorem one_int {k : IntKind} {a : Int} : ∀ u ∈ ([Value.int k a] : List Value), u.oneCell' = true := by
  intro u hu
  simp only [List.mem_cons, List.not_mem_nil, or_false] at hu
  rcases hu with rfl
  rfl
theorem byte0 (x : Int) : Value.int .u8 (x % 256) = u8v (Cd.by1 x 0) := by
  unfold u8v
  rw [Cd.by1_toNat, Int.pow_zero, Int.ediv_one]
theorem byte1 (x : Int) : Value.int .u8 (x / 256 % 256) = u8v (Cd.by1 x 1) := by
  unfold u8v
  rw [Cd.by1_toNat]
  rfl
theorem byte2 (x : Int) : Value.int .u8 (x / 65536 % 256) = u8v (Cd.by1 x 2) := by
  unfold u8v
  rw [Cd.by1_toNat]
  rfl
theorem be_at : ∀ (w k : Nat) (x : Int), k < w → (Cd.be w x)[k]? = some (Cd.by1 x (w - 1 - k))
  | w + 1, 0, x, _ => by simp [Cd.be]
  | w + 1, k + 1, x, h => by
    have := be_at w k x (by omega)
    rw [Cd.be, List.getElem?_cons_succ, this, show w - 1 - k = w + 1 - 1 - (k + 1) by omega]
theorem be_take {w k : Nat} {x : Int} (h : k < w) : (Cd.be w x).take (k + 1) = (Cd.be w x).take k ++ [Cd.by1 x (w - 1 - k)] := by
  rw [List.take_add_one, be_at w k x h]
  rfl
theorem map_u8 {l : List UInt8} {b : UInt8} : (l ++ [b]).map u8v = l.map u8v ++ [u8v b] := by simp
/-- But for a call's own nothing has turned. -/
abbrev Own (base : Nat) : Nat → Prop := fun k => base ≤ k
theorem Kept.own {base : Nat} {a b c : World} {row : Option Nat} (h : Kept (Own base) a b) (hg : b.grownBy c row) (hrow : ∀ k, row = some k → base ≤ k) : Kept (Own base) a c :=
  h.trans ⟨hg.os, hg.tape, hg.output, hg.size, fun k hk hs => hg.block k hk (fun e => hs (hrow k e.symm))⟩
set_option maxRecDepth 100000 in
set_option maxHeartbeats 1000000 in
theorem number_any (base : Nat) (v : Value) (m : Nat) (bs : List UInt8) (wide : Nat) (x : Int) (w : World) (hown : w.ownsRow base 5 1 v m (bs.map u8v)) (hx : 0 ≤ x) (hw : wide ≤ 3) (hm : m ≤ 1000) (hb : base ≤ w.heap.size) :
    Calls Tryd.prog 40 #[v, .int .i64 wide, .int .i64 x] w fun e w' => (∃ v', e = .returned v' ∧ w'.ownsRow base 5 1 v' (m + wide) ((bs ++ Cd.be wide x).map u8v)) ∧ Kept (Own base) w w' := by
  obtain ⟨i0, hi, hz0, hz1, hz2⟩ := info_parts info_u8
  have HO := Lib.hid hown
  clear hown
  have ew : IntKind.i64.wrap ((wide : Int) - 1) = (wide : Int) - 1 := IntWalk.i64_in _ ⟨by omega, by omega⟩
  go_enter Tryd.func40, Tryd.ntmps40
  go_wp2_with fail
  go_loopw [0, 1] (fun u i wr => ∃ k : Nat, k ≤ wide ∧ i = .int .i64 ((wide : Int) - 1 - k) ∧ wr.ownsRow base 5 1 u (m + k) ((bs ++ (Cd.be wide x).take k).map u8v) ∧ Kept (Own base) w wr) (fun _ i _ => (intOf i + 1).toNat)
  case atStart => exact ⟨0, Nat.zero_le _, by simp, by simpa using HO.out, Kept.refl _ _⟩
  case round =>
    obtain ⟨k, hk, rfl, hown, hkept⟩ := hrel
    have HK := Lib.hid hkept
    have hszk := hkept.size
    have HSZ := Lib.hid hszk
    clear hkept hszk
    by_cases hkn : k < wide
    · have HB := Lib.hid (be_take (x := x) hkn)
      obtain ⟨xs, hxs⟩ : ∃ xs, (bs ++ (Cd.be wide x).take k).map u8v = xs := ⟨_, rfl⟩
      rw [hxs] at hown
      have HXS := Lib.hid hxs
      clear hxs
      obtain ⟨j, hj⟩ : ∃ j, wide - 1 - k = j := ⟨_, rfl⟩
      have ej : (wide : Int) - 1 - (k : Int) = (j : Int) := by omega
      have hj2 : j ≤ 2 := by omega
      have HJ := Lib.hid hj
      rw [ej]
      clear hj ej
      have b1 : decide ((0 : Int) ≤ (j : Int)) = true := decide_eq_true (by omega)
      have hj3 : j = 0 ∨ j = 1 ∨ j = 2 := by omega
      rcases hj3 with rfl | rfl | rfl
      · have ej : ((0 : Nat) : Int) = 0 := rfl
        rw [ej] at *
        clear ej
        go_wp2_with (at_builtin; refine wpList_append_own_at _ rfl (.tmp 13) (.tmp 19) 39 rfl base 5 i0 (.int .u8 0) 1 1 Tryd.underlying39 hi hz0 hz1 hz2 rfl (by decide) _ _ _ rfl (hown.alloc _) ⟨_, 0, none⟩ 1 1 [_] rfl rfl one_cells one_int (by unfold maxLen; omega) (by omega) (by have := HSZ.out; simp; omega) ?_; intro v' w4 hown' hgrow _ hat; simp only [byte0] at hown'; have HK4 := Lib.hid (Kept.own (HK.out.alloc _) hgrow (fun b hb => (hown.lt b hb).1)); have HO4 := Lib.hid hown'; clear hown' hgrow hat)
        go_roundw
        case rel => exact ⟨k + 1, by omega, by have := HJ.out; go_num, by rw [HB.out, HJ.out, ← List.append_assoc, map_u8, HXS.out]; exact HO4.out, HK4.out⟩
        case measure => simp [intOf]
      · have ej : ((1 : Nat) : Int) = 1 := rfl
        rw [ej] at *
        clear ej
        go_wp2_with (at_builtin; refine wpList_append_own_at _ rfl (.tmp 13) (.tmp 19) 39 rfl base 5 i0 (.int .u8 0) 1 1 Tryd.underlying39 hi hz0 hz1 hz2 rfl (by decide) _ _ _ rfl (hown.alloc _) ⟨_, 0, none⟩ 1 1 [_] rfl rfl one_cells one_int (by unfold maxLen; omega) (by omega) (by have := HSZ.out; simp; omega) ?_; intro v' w4 hown' hgrow _ hat; simp only [byte1] at hown'; have HK4 := Lib.hid (Kept.own (HK.out.alloc _) hgrow (fun b hb => (hown.lt b hb).1)); have HO4 := Lib.hid hown'; clear hown' hgrow hat)
        go_roundw
        case rel => exact ⟨k + 1, by omega, by have := HJ.out; go_num, by rw [HB.out, HJ.out, ← List.append_assoc, map_u8, HXS.out]; exact HO4.out, HK4.out⟩
        case measure => simp [intOf]
      · have ej : ((2 : Nat) : Int) = 2 := rfl
        rw [ej] at *
        clear ej
        go_wp2_with (at_builtin; refine wpList_append_own_at _ rfl (.tmp 13) (.tmp 19) 39 rfl base 5 i0 (.int .u8 0) 1 1 Tryd.underlying39 hi hz0 hz1 hz2 rfl (by decide) _ _ _ rfl (hown.alloc _) ⟨_, 0, none⟩ 1 1 [_] rfl rfl one_cells one_int (by unfold maxLen; omega) (by omega) (by have := HSZ.out; simp; omega) ?_; intro v' w4 hown' hgrow _ hat; simp only [byte2] at hown'; have HK4 := Lib.hid (Kept.own (HK.out.alloc _) hgrow (fun b hb => (hown.lt b hb).1)); have HO4 := Lib.hid hown'; clear hown' hgrow hat)
        go_roundw
        case rel => exact ⟨k + 1, by omega, by have := HJ.out; go_num, by rw [HB.out, HJ.out, ← List.append_assoc, map_u8, HXS.out]; exact HO4.out, HK4.out⟩
        case measure => simp [intOf]
    · obtain rfl : k = wide := by omega
      have b1 : decide ((0 : Int) ≤ (k : Int) - 1 - (k : Int)) = false := decide_eq_false (by omega)
      rw [List.take_of_length_le (by rw [Cd.be_len]; exact Nat.le_refl _)] at hown
      go_wp2_with fail
      go_ret
      exact ⟨⟨_, rfl, hown⟩, HK.out⟩

/-- A reader's block. -/
def rdO (s : ByteArray) : Obj := .cells #[.string s] 77 (0, 0)
theorem or8 (x b : Int) (h1 : 0 ≤ x) (h2 : x < 4294967296) (h3 : 0 ≤ b) (h4 : b < 256) : bits .or .i64 (x * 256) b = x * 256 + b :=
  bits_join .i64 63 (by decide) (fun n h0 h => by rw [IntKind.wrap_i64]; omega) 8 (x * 256) b (by omega) (by omega) (by omega) h3 (by omega) (by omega)
theorem de_take {l : List UInt8} {k : Nat} {b : UInt8} (h : l[k]? = some b) : Cd.de (l.take (k + 1)) = Cd.de (l.take k) * 256 + b.toNat := by
  rw [List.take_add_one, h]
  exact Cd.de_snoc _ _
theorem de_nonneg : ∀ (l : List UInt8), 0 ≤ Cd.de l := by
  intro l
  have : ∀ (l : List UInt8) (a : Int), 0 ≤ a → 0 ≤ l.foldl (fun n b => n * 256 + (b.toNat : Int)) a := by
    intro l
    induction l with
    | nil => exact fun a h => h
    | cons b l ih => exact fun a h => ih _ (show 0 ≤ a * 256 + (b.toNat : Int) by omega)
  exact this l 0 (Int.le_refl _)
theorem de_lt : ∀ {l : List UInt8}, l.length ≤ 3 → Cd.de l < 16777216
  | [], _ => by simp [Cd.de]
  | [a], _ => by have := Cd.u8_lt a; simp only [Cd.de, List.foldl_cons, List.foldl_nil]; omega
  | [a, b], _ => by have := Cd.u8_lt a; have := Cd.u8_lt b; simp only [Cd.de, List.foldl_cons, List.foldl_nil]; omega
  | [a, b, c], _ => by have := Cd.u8_lt a; have := Cd.u8_lt b; have := Cd.u8_lt c; simp only [Cd.de, List.foldl_cons, List.foldl_nil]; omega
  | a :: b :: c :: d :: l, h => by simp at h
set_option maxRecDepth 100000 in
set_option maxHeartbeats 1000000 in
theorem rnum_any (rb : Nat) (s : ByteArray) (wide : Nat) (w : World) (hr : w.heap[rb]? = some (rdO s)) (hw : wide ≤ 3) (hs : wide ≤ s.size) (hs2 : s.size ≤ 100) :
    Calls Tryd.prog 46 #[.pointer (some ⟨rb, 0, none⟩), .int .i64 wide] w fun e w' => (∃ s', e = .returned (.int .i64 (Cd.de (s.data.toList.take wide))) ∧ w'.heap[rb]? = some (rdO s') ∧ s'.data.toList = s.data.toList.drop wide) ∧ Kept (fun k => k = rb) w w' := by
  have hc : w.cell? ⟨rb, 0, none⟩ = some (.string s) := cell_of_row _ _ _ _ _ _ hr
  have hf := frozen_of (i := 0) hr
  have HR := Lib.hid hr
  clear hr
  go_enter Tryd.func46, Tryd.ntmps46
  go_wp2_with fail
  go_loop [5, 8] (fun v i => ∃ k : Nat, k ≤ wide ∧ i = .int .i64 k ∧ v = .int .i64 (Cd.de (s.data.toList.take k))) (fun _ i => wide - (intOf i).toNat)
  case atStart => exact ⟨0, Nat.zero_le _, rfl, rfl⟩
  case round =>
    obtain ⟨k, hk, rfl, rfl⟩ := hrel
    by_cases hkn : k < wide
    · have hkl : k < s.data.toList.length := by rw [Array.length_toList]; exact Nat.lt_of_lt_of_le hkn hs
      obtain ⟨b, hb⟩ : ∃ b, s.data.toList[k]? = some b := ⟨_, List.getElem?_eq_getElem hkl⟩
      have hd := de_take hb
      have h0 := de_nonneg (s.data.toList.take k)
      have h1 := de_lt (l := s.data.toList.take k) (by rw [List.length_take]; omega)
      obtain ⟨q, hq⟩ : ∃ q, Cd.de (s.data.toList.take k) = q := ⟨_, rfl⟩
      rw [hq] at hd h0 h1
      rw [hq]
      have hbl := Cd.u8_lt b
      have ho := or8 q b.toNat h0 (by omega) (by omega) hbl
      have ew : IntKind.i64.wrap (q * 256) = q * 256 := IntWalk.i64_in _ ⟨by omega, by omega⟩
      have hg : s[k]'(by omega) = b := by
        have : s.data.toList[k] = b := by rw [List.getElem?_eq_getElem hkl] at hb; injection hb
        rw [← this]; rfl
      have b1 : decide (k < wide) = true := decide_eq_true hkn
      have b2 : decide ((k : Int) < (wide : Int)) = true := decide_eq_true (by omega)
      have t1 : (0 : Int) ≤ (k : Int) := by omega
      have t2 : (k : Int) < (s.size : Int) := by omega
      have HD := Lib.hid hd
      clear hd hb hq hkl
      go_wp2_with fail
      go_round
      case rel => exact ⟨k + 1, by omega, by go_num, by rw [HD.out]⟩
      case measure => simp [intOf]; omega
    · obtain rfl : k = wide := by omega
      have b1 : decide (k < k) = false := decide_eq_false (by omega)
      have b2 : decide ((k : Int) < (k : Int)) = false := decide_eq_false (by omega)
      have t1 : (0 : Int) ≤ (k : Int) := by omega
      have t2 : (k : Int) ≤ (s.size : Int) := by omega
      go_wp2_with fail
      go_ret
      refine ⟨⟨rfl, _, heap_set HR.out _, ?_⟩, (Kept.refl (fun k => k = rb) w).setCell (p := ⟨rb, 0, none⟩) rfl _⟩
      rw [show ∀ (x : ByteArray) (a b : Nat), (x.extract a b).data.toList = (x.data.toList.drop a).take (b - a) from fun x a b => by obtain ⟨⟨l⟩⟩ := x; rw [ByteArray.extract_mk]]
      exact List.take_of_length_le (by rw [List.length_drop, Array.length_toList]; exact Nat.le_refl _)
end Go.Proofs.YtpgicfbaefcbmaaDoor
