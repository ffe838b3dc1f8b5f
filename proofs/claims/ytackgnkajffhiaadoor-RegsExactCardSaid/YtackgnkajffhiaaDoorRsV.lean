/-
  REGISTERS: the registers of the law, by what they are.
-/
import Derived.Test.YtackgnkajffhiaaDoorRsZ
set_option linter.unusedVariables false
namespace Go.Proofs.YtackgnkajffhiaaDoor
open Go Go.RowKit

namespace Rs
def rowS (i : Nat) : ByteArray := ⟨#[114, 111, 119, 32, UInt8.ofNat (97 + i)]⟩
def sNamed : ByteArray := ⟨#[110, 97, 109, 101, 100]⟩
def sSmall : ByteArray := ⟨#[115, 109, 97, 108, 108]⟩
def sNothing : ByteArray := ⟨#[110, 111, 116, 104, 105, 110, 103]⟩
def stA (M : List RegS) (i : Nat) : List RegS := dl M 0 (rowS i) true
def stB (M : List RegS) : List RegS := dl M 113 sNamed true
def stC (M : List RegS) : List RegS := dl M 0 sSmall false
def Ls : Nat → List RegS
  | 0 => []
  | i + 1 => stC (stB (stA (Ls i) i))
def good (M : List RegS) : Bool := okB M && decide (M.length ≤ 90000)
set_option maxRecDepth 100000 in
theorem ls_good : ∀ i : Fin 12, (good (Ls i) && good (stA (Ls i) i) && good (stB (stA (Ls i) i)) && good (Ls (i + 1)) && mayB (rowS i)) = true := by decide +kernel
set_option maxRecDepth 100000 in
theorem ls_get : ∀ i : Fin 12, ∀ k : Fin 9, (if k.1 ≤ i.1 then get (Ls (i.1 + 1)) (49 + (k.1 : Int)) = some ⟨49 + (k.1 : Int), rowS (i.1 - k.1), true⟩ else get (Ls (i.1 + 1)) (49 + (k.1 : Int)) = none) := by decide +kernel
set_option maxRecDepth 100000 in
theorem ls_end : get (Ls 12) 45 = some ⟨45, sSmall, false⟩ ∧ get (Ls 12) 113 = some ⟨113, sNamed, true⟩ ∧ get (Ls 12) 48 = none := by decide +kernel
set_option maxRecDepth 100000 in
theorem row_cat : ∀ i : Fin 12, (⟨#[114, 111, 119, 32]⟩ : ByteArray) ++ (⟨#[UInt8.ofNat (97 + i.1)]⟩ : ByteArray) = rowS i := by decide +kernel
def sX : ByteArray := ⟨#[120]⟩
set_option maxRecDepth 100000 in
theorem wk : (good (yk [] 97 sX false) = true ∧ mayB sX = true ∧ mayB sNamed = true ∧ mayB sSmall = true ∧ mayB sNothing = true) ∧ get (yk [] 97 sX false) 97 = some ⟨97, sX, false⟩ ∧ get (yk [] 97 sX false) 34 = some ⟨34, sX, false⟩ := by decide +kernel
theorem good_ok {M : List RegS} (h : good M = true) : ok M ∧ M.length ≤ 90000 := by
  unfold good at h
  rw [Bool.and_eq_true, decide_eq_true_eq] at h
  exact ⟨ok_of h.1, h.2⟩
end Rs
theorem num_any (n : Int) (w : World) : Calls Tryd.prog 7 #[.int .i64 n] w fun e w' => e = .returned (.int .i64 n) ∧ w' = w := by
  go_enter Tryd.func7, Tryd.ntmps7
  go_wp2
  go_ret
  exact ⟨rfl, rfl⟩
theorem sl_nil (w : World) : Sl w (.slice none 0 0) [] := ⟨none, 0, 0, rfl, ⟨rfl, fun k r h => by simp at h, fun r h => by simp at h⟩, fun _ => ⟨rfl, rfl⟩⟩
theorem got_cells {w : World} {g : Nat} {r : RegS} (h : w.heap[g]? = some (regO r)) : w.cell? ⟨g, 0, none⟩ = some (.int .i64 r.n) ∧ w.cell? ⟨g, 1, none⟩ = some (.string r.s) ∧ w.cell? ⟨g, 2, none⟩ = some (.bool r.b) := ⟨cell_of_row _ _ _ _ _ _ h, cell_of_row _ _ _ _ _ _ h, cell_of_row _ _ _ _ _ _ h⟩
set_option maxRecDepth 100000 in
set_option maxHeartbeats 4000000 in
theorem wakes9_any (w : World) (hT : Tabs w) : Calls Tryd.prog 11 #[] w fun e w' => e = .returned (.bool true) ∧ Kept (fun _ => False) w w' := by
  have hw := Rs.wk
  have cY := yank_ok (.slice none 0 0) [] 97 Rs.sX false w (sl_nil w) (by simp) (Rs.ok_of rfl) (by decide) (by decide) hw.1.2.1 hT
  obtain ⟨Y, hY⟩ : ∃ Y, Rs.yk [] 97 Rs.sX false = Y := ⟨_, rfl⟩
  rw [hY] at hw cY
  obtain ⟨⟨hg, _⟩, h1, h2⟩ := hw
  obtain ⟨hok, hn⟩ := Rs.good_ok hg
  have cG := fun (z : Int) (hz : Rs.Td z) v W (hk : Kept (fun _ => False) w W) (hs : Sl W v Y) => get_sl v Y z W hs (by omega) hok hz (hT.kept hk id id)
  have cG1 := cG 97 (by decide)
  have cG2 := cG 0 (by decide)
  rw [show nmOf 97 = 97 from rfl, h1] at cG1
  rw [show nmOf 0 = 34 from rfl, h2] at cG2
  have cN := fun n W => num_any n W
  unfold gotV at cG1 cG2
  simp only [Rs.sX] at cY cG1 cG2
  clear hT hY hg h1 h2 hok hn cG
  go_enter Tryd.func11, Tryd.ntmps11
  go_upto_region 3 with (first
    | (go_at_call 13; refine cY.mono ?_; rintro e w2 ⟨⟨v2, rfl, hs2⟩, hk2⟩; have HS2 := Lib.hid hs2; have HK2 := Lib.hid hk2; clear hs2 hk2)
    | (go_at_call 14; refine (cG1 _ _ HK2.out HS2.out).mono ?_; rintro e w3 ⟨rfl, hk3⟩; have HK3 := Lib.hid (HK2.out.trans hk3); have HS3 := Lib.hid (HS2.out.kept hk3); clear hk3))
  have HA := Lib.hid (heap_alloc_new w3 (regO ⟨97, ⟨#[120]⟩, false⟩))
  have hk4 : Kept (fun _ => False) w3 (w3.alloc (regO ⟨97, ⟨#[120]⟩, false⟩)) := (Kept.refl _ _).alloc _
  have HK4 := Lib.hid (HK3.out.trans hk4)
  have HS4 := Lib.hid (HS3.out.kept hk4)
  clear hk4
  simp only [regO] at HA HK4 HS4
  generalize w3.alloc (.cells #[.int .i64 97, .string ⟨#[120]⟩, .bool false] 41) = w4 at *
  generalize w3.heap.size = q1 at *
  go_upto_region 4 with (go_at_call 14; refine (cG2 _ _ HK4.out HS4.out).mono ?_; rintro e w5 ⟨rfl, hk5⟩; have HA5 := Lib.hid ((hk5.block q1 (heap_lt HA.out) id).trans HA.out); have HK5 := Lib.hid (HK4.out.trans hk5); clear hk5)
  have HB := Lib.hid (heap_alloc_new w5 (regO ⟨34, ⟨#[120]⟩, false⟩))
  have hk6 : Kept (fun _ => False) w5 (w5.alloc (regO ⟨34, ⟨#[120]⟩, false⟩)) := (Kept.refl _ _).alloc _
  have HK6 := Lib.hid (HK5.out.trans hk6)
  have HA6 := Lib.hid ((hk6.block q1 (heap_lt HA5.out) id).trans HA5.out)
  clear hk6
  simp only [regO] at HB HK6 HA6
  generalize w5.alloc (.cells #[.int .i64 34, .string ⟨#[120]⟩, .bool false] 41) = w6 at *
  generalize w5.heap.size = q2 at *
  have a1 := (got_cells (r := ⟨97, ⟨#[120]⟩, false⟩) HA6.out).2.1
  have b1 := (got_cells (r := ⟨34, ⟨#[120]⟩, false⟩) HB.out).2.1
  go_wp2_with (go_at_call 7; refine (cN _ _).mono ?_; rintro e w' ⟨rfl, hw⟩; have hw2 := hw.symm; subst hw2)
  go_ret
  exact ⟨rfl, HK6.out⟩
end Go.Proofs.YtackgnkajffhiaaDoor
