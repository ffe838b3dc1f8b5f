/-
  THE LAWS' ranges (chapter 18): fifteen of them.
-/
import Derived.Test.YtpgoikecignldaaDoorB15
import Derived.Test.YtpgoikecignldaaDoorAo2
import Derived.Laws.AppendOwn
import Derived.Laws.OwnMore
import Derived.Deep.RegionHeld3
import Derived.Deep.CutRange
set_option linter.unusedVariables false
namespace Go.Proofs.YtpgoikecignldaaDoor
open Go Go.RowKit

theorem own_keepR {w w' : World} {B : Nat} {e : TypeId} {sz n : Nat} {v : Value} {xs : List Value} (h : w.ownsRow B e sz v n xs) (hk : Kept (fun _ => False) w w') : w'.ownsRow B e sz v n xs := by
  rcases h with ⟨h1, h2⟩
  refine ⟨h1, ?_⟩
  rcases h2 with ⟨rfl, rfl⟩ | ⟨g, cap, cur, rfl, hb, hh, h3⟩
  · exact .inl ⟨rfl, rfl⟩
  · exact .inr ⟨g, cap, cur, rfl, hb, (hk.block g (heap_lt hh) id).trans hh, h3⟩
theorem info_rng : (Tryd.prog.info? 36).map (fun i => (i.zero, i.size, i.bytes)) = some (some (.agg #[.int .i64 0, .int .i64 0, .bool false]), 3, 24) := by kernel_rfl
/-- The cells of ranges, one behind the other. -/
def rngC (r : Int × Int × Bool) : List Value := [.int .i64 r.1, .int .i64 r.2.1, .bool r.2.2]
/-- A slice of ranges. -/
def Rngs (w : World) (A : Option Addr) (n : Nat) (l : List (Int × Int × Bool)) : Prop :=
  l.length = n ∧ ∀ j r, l[j]? = some r → ∃ b, A = some ⟨b, 0, none⟩ ∧ w.cell? ⟨b, 3 * j, none⟩ = some (.int .i64 r.1) ∧ w.cell? ⟨b, 3 * j + 1, none⟩ = some (.int .i64 r.2.1) ∧ w.cell? ⟨b, 3 * j + 2, none⟩ = some (.bool r.2.2)
theorem rngC_at : ∀ (l : List (Int × Int × Bool)) (j i : Nat) (r : Int × Int × Bool), l[j]? = some r → i < 3 → (l.flatMap rngC)[3 * j + i]? = (rngC r)[i]?
  | [], j, i, r, h, _ => by simp at h
  | x :: l, 0, i, r, h, hi => by
    simp only [List.getElem?_cons_zero, Option.some.injEq] at h
    subst h
    rw [List.flatMap_cons, List.getElem?_append_left (by simp [rngC]; omega)]
    congr 1
    omega
  | x :: l, j + 1, i, r, h, hi => by
    rw [List.getElem?_cons_succ] at h
    rw [List.flatMap_cons, List.getElem?_append_right (by simp [rngC]; omega), ← rngC_at l j i r h hi]
    congr 1
    simp [rngC]
    omega
theorem rngs_own {w : World} {base n : Nat} {v : Value} {l : List (Int × Int × Bool)} (h : w.ownsRow base 36 3 v n (l.flatMap rngC)) (hn : l.length = n) (h0 : 0 < n) : ∃ b c, v = .slice (some ⟨b, 0, none⟩) n c ∧ Rngs w (some ⟨b, 0, none⟩) n l := by
  have hcells : ∀ g, v.ownBlock = some g → ∀ j u, (l.flatMap rngC)[j]? = some u → w.cell? ((⟨g, 0, none⟩ : Addr).add j) = some u := fun g hg => h.cells hg
  rcases h.2 with ⟨rfl, he⟩ | ⟨g, cap, cur, rfl, hb, hh, hcap, _, _, _⟩
  · exfalso
    omega
  · refine ⟨g, cap, rfl, hn, fun j r hj => ⟨g, rfl, ?_, ?_, ?_⟩⟩
    · have := hcells g rfl (3 * j + 0) (.int .i64 r.1) (by rw [rngC_at l j 0 r hj (by omega)]; rfl)
      rw [addr_add, Nat.zero_add, Nat.add_zero] at this
      exact this
    · have := hcells g rfl (3 * j + 1) (.int .i64 r.2.1) (by rw [rngC_at l j 1 r hj (by omega)]; rfl)
      rw [addr_add, Nat.zero_add] at this
      exact this
    · have := hcells g rfl (3 * j + 2) (.bool r.2.2) (by rw [rngC_at l j 2 r hj (by omega)]; rfl)
      rw [addr_add, Nat.zero_add] at this
      exact this
theorem Rngs.kept {S : Nat → Prop} {w w' : World} {A : Option Addr} {n : Nat} {l : List (Int × Int × Bool)} (h : Rngs w A n l) (hk : Kept S w w') (hs : ∀ a, A = some a → ¬ S a.block) : Rngs w' A n l := by
  refine ⟨h.1, fun j r hj => ?_⟩
  obtain ⟨b, rfl, h0, h1, h2⟩ := h.2 j r hj
  exact ⟨b, rfl, cell_kept hk h0 (hs ⟨b, 0, none⟩ rfl), cell_kept hk h1 (hs ⟨b, 0, none⟩ rfl), cell_kept hk h2 (hs ⟨b, 0, none⟩ rfl)⟩
theorem cells_new {W : World} {l : List Value} {ty : TypeId} : ∀ j u, l[j]? = some u → (W.alloc (.cells l.toArray ty)).cell? ((⟨W.heap.size, 0, none⟩ : Addr).add j) = some u := by
  intro j u hj
  rw [addr_add, Nat.zero_add, cell_of_row _ _ _ _ _ _ (heap_alloc_new W _)]
  simpa using hj
theorem six_one {a b c d : Int} {F L : Bool} : ∀ u ∈ ([Value.int .i64 a, .int .i64 b, .bool F, .int .i64 c, .int .i64 d, .bool L] : List Value), u.oneCell' = true := by
  intro u hu
  simp only [List.mem_cons, List.not_mem_nil, or_false] at hu
  rcases hu with rfl | rfl | rfl | rfl | rfl | rfl <;> rfl
set_option maxRecDepth 100000 in
set_option maxHeartbeats 1000000 in
theorem ranges_any (p : AskV) (R : Option Addr) (n c : Nat) (t : List Int) (w : World) (hR : Rn w R n t) (hn : n ≤ 6000) :
    Calls Tryd.prog 6 #[.agg p.cells, .slice R n c] w fun e w' => Kept (fun _ => False) w w' ∧ ∃ b c' l, e = .returned (.slice (some ⟨b, 0, none⟩) 15 c') ∧ Rngs w' (some ⟨b, 0, none⟩) 15 l := by
  obtain ⟨i0, hi, hz0, hz1, hz2⟩ := info_parts info_rng
  have hPB : Hid (PB (w.alloc (.cells p.cells 28)) w.heap.size p) := heap_alloc_new w _
  obtain ⟨A, n0, c0, ss, xa, xb, xr, xc, xk, xn, xq⟩ := p
  unfold AskV.cells at *
  simp only at *
  have hK1 : Hid (Kept (fun _ => False) w (w.alloc (.cells #[.slice A n0 c0, .int .i64 xa, .int .i64 xb, .int .i64 xr, .int .i64 xc, .int .i64 xk, .int .i64 xn, .int .i64 xq] 28))) := (Kept.refl _ w).alloc _
  have hz : (w.alloc (.cells #[.slice A n0 c0, .int .i64 xa, .int .i64 xb, .int .i64 xr, .int .i64 xc, .int .i64 xk, .int .i64 xn, .int .i64 xq] 28)).heap.size = w.heap.size + 1 := by simp
  have HRN := Lib.hid hR
  clear hR
  go_enter Tryd.func6, Tryd.ntmps6
  go_wp2
  have HRN1 : Hid (Rn (w.alloc (.cells #[.slice A n0 c0, .int .i64 xa, .int .i64 xb, .int .i64 xr, .int .i64 xc, .int .i64 xk, .int .i64 xn, .int .i64 xq] 28)) R n t) := HRN.out.kept hK1.out (fun _ _ => id)
  generalize w.alloc (.cells #[.slice A n0 c0, .int .i64 xa, .int .i64 xb, .int .i64 xr, .int .i64 xc, .int .i64 xk, .int .i64 xn, .int .i64 xq] 28) = W1 at *
  have hO : Hid ((W1.alloc (.cells #[.int .i64 (-1), .int .i64 0, .bool false, .int .i64 0, .int .i64 ((n : Int) + 1), .bool false, .int .i64 2, .int .i64 1, .bool false, .int .i64 0, .int .i64 (n : Int), .bool false, .int .i64 0, .int .i64 (n : Int), .bool true] 36)).ownsRow (w.heap.size + 1) 36 3 (.slice (some ⟨w.heap.size + 1, 0, none⟩) 5 5) 5 ([((-1 : Int), (0 : Int), false), (0, (n : Int) + 1, false), (2, 1, false), (0, (n : Int), false), (0, (n : Int), true)].flatMap rngC)) := by
    have := World.ownsRow_lit (base := w.heap.size + 1) (e := 36) (size := 3) W1 #[.int .i64 (-1), .int .i64 0, .bool false, .int .i64 0, .int .i64 ((n : Int) + 1), .bool false, .int .i64 2, .int .i64 1, .bool false, .int .i64 0, .int .i64 (n : Int), .bool false, .int .i64 0, .int .i64 (n : Int), .bool true] 5 (by omega) (by decide) rfl
    rw [hz] at this
    exact this
  have hK2 : Hid (Kept (fun _ => False) W1 (W1.alloc (.cells #[.int .i64 (-1), .int .i64 0, .bool false, .int .i64 0, .int .i64 ((n : Int) + 1), .bool false, .int .i64 2, .int .i64 1, .bool false, .int .i64 0, .int .i64 (n : Int), .bool false, .int .i64 0, .int .i64 (n : Int), .bool true] 36))) := (Kept.refl _ W1).alloc _
  have HZ := Lib.hid hz
  clear hz HRN
  generalize hB : w.heap.size + 1 = B at *
  go_loopw [5, 6] (fun v i wr => ∃ (k : Nat) (l : List (Int × Int × Bool)), k ≤ 5 ∧ i = .int .i64 k ∧ wr.ownsRow B 36 3 v (5 + 2 * k) (l.flatMap rngC) ∧ l.length = 5 + 2 * k ∧ Kept (fun _ => False) W1 wr) (fun _ i _ => 5 - (intOf i).toNat)
  case atStart => exact ⟨0, [((-1 : Int), (0 : Int), false), (0, (n : Int) + 1, false), (2, 1, false), (0, (n : Int), false), (0, (n : Int), true)], by omega, rfl, hO.out, rfl, hK2.out⟩
  case round =>
    obtain ⟨k, l, hk, rfl, hown, hlen, hkept⟩ := hrel
    have HL := Lib.hid hlen
    have HK := Lib.hid hkept
    have HOWN := Lib.hid hown
    have hpb := hPB.out.kept hkept id
    have p1 : wr.cell? ⟨w.heap.size, 1, none⟩ = some (.int .i64 xa) := hpb.c 1
    have p2 : wr.cell? ⟨w.heap.size, 2, none⟩ = some (.int .i64 xb) := hpb.c 2
    have hsz := hkept.size
    rw [HZ.out] at hsz
    have HSZ := Lib.hid hsz
    have HRW := Lib.hid (HRN1.out.kept hkept (fun _ _ => id))
    clear hlen hkept hpb hsz hown
    by_cases hlt : k < 5
    · have b1 : decide ((k : Int) < 5) = true := by simp; omega
      have b2 : decide (k < 5) = true := by simp; omega
      have hw1 : IntKind.i64.wrap ((n : Int) + 1) = (n : Int) + 1 := IntWalk.i64_in _ ⟨by omega, by omega⟩
      go_upto_region 5 with fail
      go_cut [7, 8] from 26 to 45 (fun x y wx => ∃ a b : Nat, x = .int .i64 a ∧ y = .int .i64 b ∧ a ≤ n ∧ b ≤ n ∧ Kept (fun _ => False) wr wx)
      case first =>
        go_region_held3 (fun (w' : World) => w'.cell? ⟨w.heap.size, 1, none⟩ = some (.int .i64 xa) ∧ w'.cell? ⟨w.heap.size, 2, none⟩ = some (.int .i64 xb)) (go_keep)
          ((go_at_call 17; refine (within_any _ ((n : Int) + 1) (by omega) (by omega) _).mono ?_; rintro e w' ⟨x, hx, rfl, hw⟩; have hw2 := hw.symm; subst hw2))
        all_goals
          go_wp2_with fail
          go_meet
          exact ⟨_, _, rfl, rfl, by omega, by omega, (Kept.refl _ _).drew⟩
      case rest =>
        clear hw1
        obtain ⟨a, b, rfl, rfl, ha, hb, hkc⟩ := hcut
        have HKC := Lib.hid hkc
        have hkind : ((k : Int) % 3 = 0 ∨ (k : Int) % 3 = 1 ∨ (k : Int) % 3 = 2) := by omega
        have cB := b15_any R n c t a b ((k : Int) % 3) wc (HRW.out.kept hkc (fun _ _ => id)) ha hb hn hkind
        have hminI : min (a : Int) (b : Int) = ((min a b : Nat) : Int) := by omega
        have hmaxI : max (a : Int) (b : Int) = ((max a b : Nat) : Int) := by omega
        clear hkc hkind p1 p2
        obtain ⟨EB, hEB⟩ : ∃ EB, ((k : Int) % 2 == 0) = EB := ⟨_, rfl⟩
        generalize min a b = mm at *
        generalize max a b = MM at *
        go_wp2_with (first
          | (go_at_call 12; refine cB.mono ?_; rintro e w5 ⟨lo, hi', ln, rfl, hk5⟩; have HK5 := Lib.hid (HKC.out.trans hk5); have HO5 := Lib.hid (own_keepR HOWN.out (HKC.out.trans hk5)); clear hk5 cB)
          | (at_builtin; refine wpList_append_own _ rfl _ _ 32 rfl B 36 i0 (.agg #[.int .i64 0, .int .i64 0, .bool false]) 3 24 Tryd.underlying32 hi hz0 hz1 hz2 rfl (by decide) _ _ _ rfl (HO5.out.alloc _) ⟨_, 0, none⟩ 2 2 [.int .i64 lo, .int .i64 hi', .bool ln, .int .i64 (mm : Nat), .int .i64 (MM : Nat), .bool EB] rfl rfl cells_new six_one (by unfold maxLen; omega) (by omega) (by have h1 := HSZ.out; have h2 := HK5.out.size; simp; omega) ?_; intro v' w7 hown' hgrow _; have hK7 := Lib.hid (Kept.grew ((HK.out.trans HK5.out).alloc (.cells #[.int .i64 lo, .int .i64 hi', .bool ln, .int .i64 (mm : Nat), .int .i64 (MM : Nat), .bool EB] 36)) hgrow (fun q hq => by rw [HZ.out]; exact (HO5.out.lt q hq).1)); have HO7 := Lib.hid hown'; clear hown' hgrow))
        have hT : l.flatMap rngC ++ [.int .i64 lo, .int .i64 hi', .bool ln, .int .i64 (mm : Nat), .int .i64 (MM : Nat), .bool EB] = (l ++ [(lo, hi', ln), ((mm : Int), (MM : Int), EB)]).flatMap rngC := by rw [List.flatMap_append]; rfl
        have HT := Lib.hid hT
        clear hT
        go_roundw
        case rel => exact ⟨k + 1, l ++ [(lo, hi', ln), ((mm : Int), (MM : Int), EB)], by omega, by go_num, by rw [← HT.out]; exact HO7.out, by rw [List.length_append, HL.out]; show 5 + 2 * k + 2 = _; omega, hK7.out⟩
        case measure => simp [intOf]; omega
    · obtain rfl : k = 5 := by omega
      obtain ⟨bb, cc, rfl, hRs⟩ := rngs_own HOWN.out HL.out (by omega)
      have HRS := Lib.hid hRs
      have HK9 := Lib.hid (hK1.out.trans HK.out)
      clear hRs HOWN
      go_wp2
      go_ret
      exact ⟨HK9.out, bb, cc, l, rfl, HRS.out⟩
end Go.Proofs.YtpgoikecignldaaDoor
