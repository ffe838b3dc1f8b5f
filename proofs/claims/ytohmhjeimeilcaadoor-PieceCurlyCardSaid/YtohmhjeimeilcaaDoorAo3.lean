/-
  THE LAWS' OWN CALLS: which offsets an ask asks about.
-/
import Derived.Test.YtohmhjeimeilcaaDoorAo2
set_option linter.unusedVariables false
namespace Go.Proofs.YtohmhjeimeilcaaDoor
open Go Go.RowKit

theorem info_int : (Tryd.prog.info? 3).map (fun i => (i.zero, i.size, i.bytes)) = some (some (.int .i64 0), 1, 8) := by kernel_rfl
/-- What is owned reads as a list of numbers. -/
theorem owned_nums {w : World} {base : Nat} {v : Value} {n : Nat} {xs : List Int} (h : w.ownsRow base 3 1 v n (xs.map (Value.int .i64))) (hx : xs.length = n) : ∃ A c, v = .slice A n c ∧ Nums w A n xs ∧ n ≤ c ∧ (∀ a, A = some a → base ≤ a.block) := by
  have hcells : ∀ g, v.ownBlock = some g → ∀ j u, (xs.map (Value.int .i64))[j]? = some u → w.cell? ((⟨g, 0, none⟩ : Addr).add j) = some u := fun g hg => h.cells hg
  rcases h.2 with ⟨rfl, rfl⟩ | ⟨g, cap, cur, rfl, hb, hh, hcap, _, _, _⟩
  · obtain rfl := List.eq_nil_of_length_eq_zero hx
    exact ⟨none, 0, rfl, ⟨rfl, fun j x hj => by simp at hj⟩, Nat.le_refl _, fun a ha => by cases ha⟩
  · refine ⟨_, cap, rfl, ⟨hx, fun j x hj => ⟨_, rfl, hcells g rfl j (.int .i64 x) (by rw [List.getElem?_map, hj]; rfl)⟩⟩, hcap, fun a ha => by cases ha; exact hb⟩
set_option maxHeartbeats 1000000 in
theorem offsets_any (p : AskV) (R : Option Addr) (n c : Nat) (w : World) (hp : I64 p.xa) (hn : n ≤ 6000) :
    Calls Tryd.prog 26 #[.agg p.cells, .slice R n c] w fun e w' => Kept (fun _ => False) w w' ∧ ∃ B m c' xs, e = .returned (.slice B m c') ∧ Nums w' B m xs ∧ m ≤ 15 ∧ ∀ x ∈ xs, I64 x := by
  obtain ⟨i0, hi, hz0, hz1, hz2⟩ := info_parts info_int
  have hPB : Hid (PB (w.alloc (.cells p.cells 28)) w.heap.size p) := heap_alloc_new w _
  obtain ⟨A, n0, c0, ss, xa, xb, xr, xc, xk, xn, xq⟩ := p
  unfold AskV.cells at *
  simp only at *
  have HP := Lib.hid hp
  clear hp
  go_enter Tryd.func26, Tryd.ntmps26
  go_wp2
  have hK1 : Hid (Kept (fun _ => False) w (w.alloc (.cells #[.slice A n0 c0, .int .i64 xa, .int .i64 xb, .int .i64 xr, .int .i64 xc, .int .i64 xk, .int .i64 xn, .int .i64 xq] 28))) := (Kept.refl _ w).alloc _
  have hz : (w.alloc (.cells #[.slice A n0 c0, .int .i64 xa, .int .i64 xb, .int .i64 xr, .int .i64 xc, .int .i64 xk, .int .i64 xn, .int .i64 xq] 28)).heap.size = w.heap.size + 1 := by simp
  generalize w.alloc (.cells #[.slice A n0 c0, .int .i64 xa, .int .i64 xb, .int .i64 xr, .int .i64 xc, .int .i64 xk, .int .i64 xn, .int .i64 xq] 28) = W1 at *
  have hO : Hid ((W1.alloc (.cells #[.int .i64 xa, .int .i64 (-1), .int .i64 ((n : Int) + 1)] 3)).ownsRow (w.heap.size + 1) 3 1 (.slice (some ⟨w.heap.size + 1, 0, none⟩) 3 3) 3 ([xa, -1, (n : Int) + 1].map (Value.int .i64))) := by
    have := World.ownsRow_lit (base := w.heap.size + 1) (e := 3) (size := 1) W1 #[.int .i64 xa, .int .i64 (-1), .int .i64 ((n : Int) + 1)] 3 (by omega) (by decide) rfl
    rw [hz] at this
    exact this
  have hK2 : Hid (Kept (fun _ => False) W1 (W1.alloc (.cells #[.int .i64 xa, .int .i64 (-1), .int .i64 ((n : Int) + 1)] 3))) := (Kept.refl _ W1).alloc _
  have HZ := Lib.hid hz
  clear hz
  generalize hB : w.heap.size + 1 = B at *
  go_loopw [5, 6] (fun v i wr => ∃ (k : Nat) (xs : List Int), k ≤ 12 ∧ k ≤ n + 1 ∧ i = .int .i64 k ∧ wr.ownsRow B 3 1 v (3 + k) (xs.map (Value.int .i64)) ∧ xs.length = 3 + k ∧ (∀ x ∈ xs, I64 x) ∧ Kept (fun _ => False) W1 wr) (fun _ i _ => 12 - (intOf i).toNat)
  case atStart =>
    refine ⟨0, [xa, -1, (n : Int) + 1], by omega, by omega, rfl, hO.out, rfl, ?_, hK2.out⟩
    intro x hx
    simp only [List.mem_cons, List.not_mem_nil, or_false] at hx
    rcases hx with rfl | rfl | rfl
    · exact HP.out
    · unfold I64; omega
    · unfold I64; omega
  case round =>
    obtain ⟨k, xs, hk1, hk2, rfl, hown, hlen, hall, hkept⟩ := hrel
    have HL := Lib.hid hlen
    have HALL := Lib.hid hall
    have HK := Lib.hid hkept
    have hpb := hPB.out.kept hkept id
    have p1 : wr.cell? ⟨w.heap.size, 1, none⟩ = some (.int .i64 xa) := hpb.c 1
    have hsz := hkept.size
    rw [HZ.out] at hsz
    have HSZ := Lib.hid hsz
    clear hlen hall hkept hpb hsz
    by_cases hgo : k ≤ n ∧ k < 12
    · obtain ⟨g1, g2⟩ := hgo
      have b1 : decide ((k : Int) ≤ (n : Int)) = true := by simp; omega
      have b2 : decide ((k : Int) < 12) = true := by simp; omega
      have b3 : decide (k ≤ n) = true := by simp; omega
      have b4 : decide (k < 12) = true := by simp; omega
      go_wp2_with (first
        | (go_at_call 43; refine (within_any _ ((n : Int) + 1) (by omega) (by omega) _).mono ?_; rintro e w' ⟨x, hx, rfl, rfl⟩)
        | (at_builtin; refine wpList_append_own _ rfl _ _ 38 rfl B 3 i0 (.int .i64 0) 1 8 Tryd.underlying38 hi hz0 hz1 hz2 rfl (by decide) _ _ _ rfl (hown.alloc _) ⟨_, 0, none⟩ 1 1 [.int .i64 (x : Nat)] rfl rfl ?c1 ?c2 ?c3 ?c4 ?c5 ?_))
      case c1 =>
        intro j u hj
        match j, hj with
        | 0, hj => simp at hj; subst hj; simp [Addr.add]
      case c2 => intro u hu; simp at hu; subst hu; rfl
      case c3 => unfold maxLen; omega
      case c4 => omega
      case c5 => have := HSZ.out; simp; omega
      intro v' w1 hown' hgrow _
      have hK1 := Lib.hid (Kept.grew (HK.out.alloc (.cells #[.int .i64 (x : Nat)] 3)) hgrow (fun q hq => by rw [HZ.out]; exact (hown.lt q hq).1))
      have hT : List.map (Value.int .i64) xs ++ [.int .i64 (x : Nat)] = (xs ++ [(x : Int)]).map (Value.int .i64) := by simp
      rw [hT] at hown'
      have HO := Lib.hid hown'
      have hxn : x ≤ n := by omega
      clear hown' hgrow hown hT hx
      go_wp2
      go_roundw
      case rel =>
        refine ⟨k + 1, xs ++ [(x : Int)], by omega, by omega, by go_num, HO.out, by rw [List.length_append, HL.out]; rfl, fun y hy => ?_, hK1.out⟩
        rcases List.mem_append.1 hy with h | h
        · exact HALL.out y h
        · simp at h
          subst h
          unfold I64
          omega
      case measure => simp [intOf]; omega
    · have hlast : (k = n + 1 ∧ k < 12) ∨ (k ≤ n ∧ k = 12) ∨ (k = n + 1 ∧ k = 12) := by omega
      have hfin : Hid (3 + k ≤ 15) := by show _ ≤ _; omega
      obtain ⟨C, c', rfl, hN, hc, _⟩ := owned_nums hown HL.out
      have HN := Lib.hid hN
      clear hown hN hgo
      rcases hlast with ⟨h1, h2⟩ | ⟨h1, h2⟩ | ⟨h1, h2⟩
      case' inl | inr.inr =>
        have b1 : decide ((k : Int) ≤ (n : Int)) = false := by simp; omega
        have b3 : decide (k ≤ n) = false := by simp; omega
      case' inr.inl =>
        have b1 : decide ((k : Int) ≤ (n : Int)) = true := by simp; omega
        have b3 : decide (k ≤ n) = true := by simp; omega
        have b2 : decide ((k : Int) < 12) = false := by simp; omega
        have b4 : decide (k < 12) = false := by simp; omega
      all_goals
        clear h1 h2
        go_wp2
        go_ret
        exact ⟨hK1.out.trans HK.out, C, 3 + k, c', xs, rfl, HN.out, hfin.out, HALL.out⟩
end Go.Proofs.YtohmhjeimeilcaaDoor
