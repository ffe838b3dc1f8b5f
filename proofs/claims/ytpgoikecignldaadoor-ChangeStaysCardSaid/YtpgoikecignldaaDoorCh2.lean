/-
  THE PROGRAM's may (change): may a range be of a text?
-/
import Derived.Test.YtpgoikecignldaaDoorCh1
set_option linter.unusedVariables false
namespace Go.Proofs.YtpgoikecignldaaDoor
open Go Go.RowKit

/-- The same over numbers that may be below nought. -/
def RngI (t : List Int) (lo hi : Int) (line : Bool) : Prop := ∃ a b : Nat, lo = a ∧ hi = b ∧ Rw.Rng t a b line
theorem rngI_nat {t : List Int} {a b : Nat} {line : Bool} : RngI t a b line ↔ Rw.Rng t a b line := by
  constructor
  · rintro ⟨x, y, h1, h2, h⟩
    rwa [show a = x by omega, show b = y by omega]
  · exact fun h => ⟨a, b, rfl, rfl, h⟩
theorem bool_of {B : Bool} {p : Prop} (h : B = true ↔ p) (hp : p) : B = true := h.2 hp
theorem bool_no {B : Bool} {p : Prop} (h : B = true ↔ p) (hp : ¬ p) : B = false := by cases B with | false => rfl | true => exact absurd (h.1 rfl) hp
set_option maxRecDepth 100000 in
set_option maxHeartbeats 1000000 in
theorem chmay_any (A : Option Addr) (n c : Nat) (t : List Int) (lo hi : Int) (line : Bool) (B : Bool) (w : World) (hA : Rn w A n t) (hn : n ≤ 100000) (hB : B = true ↔ RngI t lo hi line) :
    Calls Tryd.prog 22 #[.slice A n c, rngV lo hi line] w fun e w' => e = .returned (.bool B) ∧ Kept (fun _ => False) w w' := by
  have hka : Kept (fun _ => False) w (w.alloc (rngO lo hi line)) := (Kept.refl _ w).alloc _
  have HG0 : Hid ((w.alloc (rngO lo hi line)).heap[w.heap.size]? = some (rngO lo hi line)) := heap_alloc_new w _
  have HA : Hid (Rn (w.alloc (rngO lo hi line)) A n t) := hA.kept hka (fun _ _ => id)
  have HKA := Lib.hid hka
  have HB := Lib.hid hB
  clear hka hA hB
  go_enter Tryd.func22, Tryd.ntmps22
  go_upto_region 1 with fail
  obtain ⟨g, hg⟩ : ∃ g, w.heap.size = g := ⟨_, rfl⟩
  simp only [hg] at HG0 HA HKA ⊢
  clear hg
  generalize w.alloc (rngO lo hi line) = wa at *
  have f0 : wa.cell? ⟨g, 0, none⟩ = some (.int .i64 lo) := by rw [cell_of_row _ _ _ _ _ _ HG0.out]; rfl
  have f1 : wa.cell? ⟨g, 1, none⟩ = some (.int .i64 hi) := by rw [cell_of_row _ _ _ _ _ _ HG0.out]; rfl
  have f2 : wa.cell? ⟨g, 2, none⟩ = some (.bool line) := by rw [cell_of_row _ _ _ _ _ _ HG0.out]; rfl
  by_cases h0 : lo < 0
  · have b0 : decide (lo < 0) = true := decide_eq_true h0
    have e : B = false := bool_no HB.out (by rintro ⟨x, y, h1, h2, h⟩; omega)
    go_wp2
    go_ret
    exact ⟨by first | rfl | (rw [e]; rfl), HKA.out⟩
  have b0 : decide (lo < 0) = false := decide_eq_false h0
  by_cases h1 : hi < lo
  · have b1 : decide (hi < lo) = true := decide_eq_true h1
    have e : B = false := bool_no HB.out (by rintro ⟨x, y, h1, h2, h⟩; have := h.1; omega)
    go_wp2
    go_ret
    exact ⟨by first | rfl | (rw [e]; rfl), HKA.out⟩
  have b1 : decide (hi < lo) = false := decide_eq_false h1
  by_cases h2 : (n : Int) < hi
  · have b2 : decide ((n : Int) < hi) = true := decide_eq_true h2
    have e : B = false := bool_no HB.out (by rintro ⟨x, y, h1, h2, h⟩; have := h.2.1; rw [HA.out.1] at this; omega)
    go_wp2
    go_ret
    exact ⟨by first | rfl | (rw [e]; rfl), HKA.out⟩
  have b2 : decide ((n : Int) < hi) = false := decide_eq_false h2
  obtain ⟨a, rfl⟩ : ∃ a : Nat, lo = a := ⟨lo.toNat, by omega⟩
  obtain ⟨b, rfl⟩ : ∃ b : Nat, hi = b := ⟨hi.toNat, by omega⟩
  have hab : a ≤ b := by omega
  have hbn : b ≤ n := by omega
  have hr := HB.out.trans rngI_nat
  have HR := Lib.hid hr
  clear hr h0 h1 h2
  cases line with
  | false =>
    have e : B = true := HR.out.2 ⟨hab, by rw [HA.out.1]; exact hbn, fun h => by cases h⟩
    go_wp2
    go_ret
    exact ⟨by first | rfl | (rw [e]; rfl), HKA.out⟩
  | true =>
    have hp : B = true ↔ (a = 0 ∨ t[a - 1]? = some 10) ∧ (b = n ∨ t[b]? = some 10) := by
      rw [HR.out, ← Rw.beg_iff, ← HA.out.1, ← Rw.en_iff (by rw [HA.out.1]; exact hbn)]
      exact ⟨fun h => h.2.2 rfl, fun h => ⟨hab, by rw [HA.out.1]; exact hbn, fun _ => h⟩⟩
    have HP := Lib.hid hp
    clear hp
    -- the second half, whatever the first was
    cases a with
    | zero =>
      have a1 : ((0 : Int) == 0) = true := rfl
      by_cases hb : b = n
      · subst hb
        have e : B = true := HP.out.2 ⟨.inl rfl, .inl rfl⟩
        go_wp2
        go_ret
        exact ⟨by first | rfl | (rw [e]; rfl), HKA.out⟩
      · obtain ⟨ad, y, rfl, hy, cy⟩ := HA.out.cell (show b < n by omega)
        have d1 : ((b : Int) == (n : Int)) = false := by rw [beq_eq_false_iff_ne]; omega
        have d2 : (b == n) = false := by rw [beq_eq_false_iff_ne]; exact hb
        have d3 : (b : Int) < (n : Int) := by omega
        by_cases h10 : y = 10
        · subst h10
          have e : B = true := HP.out.2 ⟨.inl rfl, .inr hy⟩
          clear hy hb
          go_wp2
          go_ret
          exact ⟨by first | rfl | (rw [e]; rfl), HKA.out⟩
        · have d4 : (y == 10) = false := by rw [beq_eq_false_iff_ne]; exact h10
          have e : B = false := bool_no HP.out (by rintro ⟨_, h | h⟩; exact hb h; rw [hy] at h; injection h with h; exact h10 h)
          clear hy hb h10
          go_wp2
          go_ret
          exact ⟨by first | rfl | (rw [e]; rfl), HKA.out⟩
    | succ k =>
      have a1 : ((k : Int) + 1 == 0) = false := by rw [beq_eq_false_iff_ne]; omega
      have i1 : IntKind.i64.wrap ((k : Int) + 1 - 1) = (k : Int) := by rw [IntWalk.i64_in _ ⟨by omega, by omega⟩]; omega
      obtain ⟨ad, x, rfl, hx, cx⟩ := HA.out.cell (show k < n by omega)
      by_cases hx10 : x = 10
      · subst hx10
        by_cases hb : b = n
        · subst hb
          have e : B = true := HP.out.2 ⟨.inr hx, .inl rfl⟩
          clear hx
          go_wp2
          go_ret
          exact ⟨by first | rfl | (rw [e]; rfl), HKA.out⟩
        · obtain ⟨ad2, y, e2, hy, cy⟩ := HA.out.cell (show b < n by omega)
          injection e2 with e2
          subst e2
          have d1 : ((b : Int) == (n : Int)) = false := by rw [beq_eq_false_iff_ne]; omega
          have d2 : (b == n) = false := by rw [beq_eq_false_iff_ne]; exact hb
          have d3 : (b : Int) < (n : Int) := by omega
          by_cases h10 : y = 10
          · subst h10
            have e : B = true := HP.out.2 ⟨.inr hx, .inr hy⟩
            clear hx hy hb
            go_wp2
            go_ret
            exact ⟨by first | rfl | (rw [e]; rfl), HKA.out⟩
          · have d4 : (y == 10) = false := by rw [beq_eq_false_iff_ne]; exact h10
            have e : B = false := bool_no HP.out (by rintro ⟨_, h | h⟩; exact hb h; rw [hy] at h; injection h with h; exact h10 h)
            clear hx hy hb h10
            go_wp2
            go_ret
            exact ⟨by first | rfl | (rw [e]; rfl), HKA.out⟩
      · have d5 : (x == 10) = false := by rw [beq_eq_false_iff_ne]; exact hx10
        have e : B = false := bool_no HP.out (by
          rintro ⟨h | h, _⟩
          · omega
          · rw [show k + 1 - 1 = k by omega, hx] at h; injection h with h; exact hx10 h)
        clear hx hx10
        go_wp2
        go_ret
        exact ⟨by first | rfl | (rw [e]; rfl), HKA.out⟩
end Go.Proofs.YtpgoikecignldaaDoor
