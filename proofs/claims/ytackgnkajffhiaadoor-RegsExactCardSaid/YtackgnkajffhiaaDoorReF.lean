/-
  REGISTERS, the reference's: which may be; a register in its place, a register less.
-/
import Derived.Test.YtackgnkajffhiaaDoorReE
set_option linter.unusedVariables false
namespace Go.Proofs.YtackgnkajffhiaaDoor
open Go Go.RowKit

set_option linter.unusedSimpArgs false in
set_option maxRecDepth 100000 in
set_option maxHeartbeats 8000000 in
theorem rregs_gen (A : Option Addr) (n c : Nat) (M : List RegS) (w : World) (hA : Rg w A n M) (hn : n ≤ 100000) (k0 : Nat) (hk0 : k0 ≤ n) (hM : ∀ j, j < k0 → Rs.okAt M j) (hbad : k0 < n → ¬ Rs.okAt M k0) (hT : Tabs w) :
    Calls Tryd.prog 9 #[.slice A n c] w fun e w' => e = .returned (.bool (decide (k0 = n))) ∧ Kept (fun _ => False) w w' := by
  have HA := Lib.hid hA
  have HM := Lib.hid hM
  have HT := Lib.hid hT
  have HBAD := Lib.hid hbad
  clear hA hM hT hbad
  obtain ⟨E, hE⟩ : ∃ E, decide (k0 = n) = E := ⟨_, rfl⟩
  rw [hE]
  have HE := Lib.hid hE
  clear hE
  go_enter Tryd.func9, Tryd.ntmps9
  go_wp2_with fail
  go_loopw [3] (fun v wr => ∃ k : Nat, k ≤ k0 ∧ v = .int .i64 k ∧ Kept (fun _ => False) w wr) (fun v _ => n - (intOf v).toNat)
  case atStart => exact ⟨0, Nat.zero_le _, rfl, Kept.refl _ _⟩
  case round =>
    obtain ⟨k, hk, rfl, hkept⟩ := hrel
    have HK := Lib.hid hkept
    clear hkept
    by_cases hlk : k < k0
    · have hlt : k < n := by omega
      obtain ⟨ad, r, rfl, hr, h3, hsz⟩ := (HA.out.kept HK.out (fun _ _ => id)).at_ hlt
      have c0 := h3.c0
      have c1 := h3.c1
      have b1 : decide (k < n) = true := decide_eq_true hlt
      have b2 : decide ((k : Int) < (n : Int)) = true := decide_eq_true (by omega)
      have t1 : (0 : Int) ≤ (k : Int) := by omega
      have t2 : (k : Int) < (n : Int) := by omega
      have cN := fun W => rname_any r.n W
      have cC := fun W (h : Tabs W) => rmay_any r.s W hsz h
      have hdr : Kept (fun _ => False) wr wr.drew := (Kept.refl _ _).drew
      have hTd := (HT.out.kept HK.out id id).kept hdr id id
      have H3 := Lib.hid h3
      have HR := Lib.hid hr
      clear hr h3 hsz hdr
      have hat := HM.out k hlk r HR.out
      rw [decide_eq_true hat.1.1] at cN
      rw [hat.1.2] at cC
      have HAT := Lib.hid hat.2
      clear hat
      go_wp2_with fail
      by_cases h0 : k = 0
      · have z0 : decide ((0 : Int) < (k : Int)) = false := decide_eq_false (by omega)
        have z1 : decide (0 < k) = false := decide_eq_false (by omega)
        have KA : wr.drew.cell? (ad.add (k * 3)) = some (.int .i64 r.n) ∧ wr.drew.cell? ⟨(ad.add (k * 3)).block, (ad.add (k * 3)).off + 1, none⟩ = some (.string r.s) := ⟨c0, c1⟩
        clear h0
        refine wp_region_noPanic ?_
        refine wp_region_held_drew (S := (fun (w' : World) => w'.cell? (ad.add (k * 3)) = some (.int .i64 r.n) ∧ w'.cell? ⟨(ad.add (k * 3)).block, (ad.add (k * 3)).off + 1, none⟩ = some (.string r.s))) (by kernel_rfl) KA (fun hHeld => ?_)
        refine wpAnyH_take (i := 0) (oi := _) (v := .slice (some ad) n c) rfl (by kernel_rfl) (by kernel_rfl) (by kernel_rfl) (fun _ _ _ h => h) (Or.inl ⟨by rfl, fun w hSw => by go_simp⟩) (by assumption) ?_
        try simp only [List.getElem_toArray, List.getElem_cons_succ, List.getElem_cons_zero, Act.put, List.setIfInBounds_toArray, List.set_cons_zero, List.set_cons_succ]
        refine wpAnyH_take (i := 1) (oi := _) (v := .int .i64 k) rfl (by kernel_rfl) (by kernel_rfl) (by kernel_rfl) (fun _ _ _ h => h) (Or.inl ⟨by rfl, fun w hSw => by go_simp⟩) (by assumption) ?_
        try simp only [List.getElem_toArray, List.getElem_cons_succ, List.getElem_cons_zero, Act.put, List.setIfInBounds_toArray, List.set_cons_zero, List.set_cons_succ]
        refine wpAnyH_take (i := 2) (oi := _) (v := .pointer (some (ad.add (k * 3)))) rfl (by kernel_rfl) (by kernel_rfl) (by kernel_rfl) (fun _ _ _ h => h) (Or.inl ⟨by rfl, fun w hSw => by go_simp⟩) (by assumption) ?_
        try simp only [List.getElem_toArray, List.getElem_cons_succ, List.getElem_cons_zero, Act.put, List.setIfInBounds_toArray, List.set_cons_zero, List.set_cons_succ]
        refine wpAnyH_take (i := 3) (oi := _) (v := .pointer (some (ad.add (k * 3)))) rfl (by kernel_rfl) (by kernel_rfl) (by kernel_rfl) (fun _ _ _ h => h) (Or.inl ⟨by rfl, fun w hSw => by go_simp⟩) (by assumption) ?_
        try simp only [List.getElem_toArray, List.getElem_cons_succ, List.getElem_cons_zero, Act.put, List.setIfInBounds_toArray, List.set_cons_zero, List.set_cons_succ]
        refine wpAnyH_take (i := 4) (oi := _) (v := .int .i64 r.n) rfl (by kernel_rfl) (by kernel_rfl) (by kernel_rfl) (fun _ _ _ h => h) (Or.inl ⟨by rfl, fun w hSw => by go_simp⟩) (by assumption) ?_
        try simp only [List.getElem_toArray, List.getElem_cons_succ, List.getElem_cons_zero, Act.put, List.setIfInBounds_toArray, List.set_cons_zero, List.set_cons_succ]
        refine wpAnyH_ready (rs := [5]) (by kernel_rfl) (by simp) ?_
        refine AllReadyH.cons rfl (fun K hK => ?_) AllReadyH.nil
        go_simp
        refine (cN _).mono ?_
        rintro e w' ⟨rfl, hw⟩
        have hw2 := hw.symm
        subst hw2
        refine hK.out _ _ KA (fun hHeld5 => ?_)
        clear hK K
        refine wpAnyH_take (i := 6) (oi := _) (v := .bool false) rfl (by kernel_rfl) (by kernel_rfl) (by kernel_rfl) (fun _ _ _ h => h) (Or.inl ⟨by rfl, fun w hSw => by go_simp⟩) (by assumption) ?_
        try simp only [List.getElem_toArray, List.getElem_cons_succ, List.getElem_cons_zero, Act.put, List.setIfInBounds_toArray, List.set_cons_zero, List.set_cons_succ]
        refine wpAnyH_take (i := 7) (oi := _) (v := .bool false) rfl (by kernel_rfl) (by kernel_rfl) (by kernel_rfl) (fun _ _ _ h => h) (Or.inl ⟨by rfl, fun w hSw => by go_simp⟩) (by assumption) ?_
        try simp only [List.getElem_toArray, List.getElem_cons_succ, List.getElem_cons_zero, Act.put, List.setIfInBounds_toArray, List.set_cons_zero, List.set_cons_succ]
        refine wpAnyH_take (i := 8) (oi := _) (v := .slice (some ad) n c) rfl (by kernel_rfl) (by kernel_rfl) (by kernel_rfl) (fun _ _ _ h => h) (Or.inl ⟨by rfl, fun w hSw => by go_simp⟩) (by assumption) ?_
        try simp only [List.getElem_toArray, List.getElem_cons_succ, List.getElem_cons_zero, Act.put, List.setIfInBounds_toArray, List.set_cons_zero, List.set_cons_succ]
        refine wpAnyH_take (i := 9) (oi := _) (v := .int .i64 k) rfl (by kernel_rfl) (by kernel_rfl) (by kernel_rfl) (fun _ _ _ h => h) (Or.inl ⟨by rfl, fun w hSw => by go_simp⟩) (by assumption) ?_
        try simp only [List.getElem_toArray, List.getElem_cons_succ, List.getElem_cons_zero, Act.put, List.setIfInBounds_toArray, List.set_cons_zero, List.set_cons_succ]
        refine wpAnyH_take (i := 10) (oi := _) (v := .pointer (some (ad.add (k * 3)))) rfl (by kernel_rfl) (by kernel_rfl) (by kernel_rfl) (fun _ _ _ h => h) (Or.inl ⟨by rfl, fun w hSw => by go_simp⟩) (by assumption) ?_
        try simp only [List.getElem_toArray, List.getElem_cons_succ, List.getElem_cons_zero, Act.put, List.setIfInBounds_toArray, List.set_cons_zero, List.set_cons_succ]
        refine wpAnyH_take (i := 11) (oi := _) (v := .pointer (some ⟨(ad.add (k * 3)).block, (ad.add (k * 3)).off + 1, none⟩)) rfl (by kernel_rfl) (by kernel_rfl) (by kernel_rfl) (fun _ _ _ h => h) (Or.inl ⟨by rfl, fun w hSw => by go_simp⟩) (by assumption) ?_
        try simp only [List.getElem_toArray, List.getElem_cons_succ, List.getElem_cons_zero, Act.put, List.setIfInBounds_toArray, List.set_cons_zero, List.set_cons_succ]
        refine wpAnyH_take (i := 12) (oi := _) (v := .string r.s) rfl (by kernel_rfl) (by kernel_rfl) (by kernel_rfl) (fun _ _ _ h => h) (Or.inl ⟨by rfl, fun w hSw => by go_simp⟩) (by assumption) ?_
        try simp only [List.getElem_toArray, List.getElem_cons_succ, List.getElem_cons_zero, Act.put, List.setIfInBounds_toArray, List.set_cons_zero, List.set_cons_succ]
        refine wpAnyH_ready (rs := [13]) (by kernel_rfl) (by simp) ?_
        refine AllReadyH.cons rfl (fun K hK => ?_) AllReadyH.nil
        go_simp
        refine (cC _ hTd).mono ?_
        rintro e w5 ⟨rfl, hk5⟩
        have HK5 := Lib.hid (((Kept.refl (fun _ => False) wr).drew).trans hk5)
        have KB := (show w5.cell? (ad.add (k * 3)) = some (.int .i64 r.n) ∧ w5.cell? ⟨(ad.add (k * 3)).block, (ad.add (k * 3)).off + 1, none⟩ = some (.string r.s) from ⟨(H3.out.kept HK5.out id).c0, (H3.out.kept HK5.out id).c1⟩)
        refine hK.out _ _ KB (fun hHeld13 => ?_)
        clear hK K hk5
        refine wpAnyH_take (i := 14) (oi := _) (v := .bool false) rfl (by kernel_rfl) (by kernel_rfl) (by kernel_rfl) (fun _ _ _ h => h) (Or.inl ⟨by rfl, fun w hSw => by go_simp⟩) (by assumption) ?_
        try simp only [List.getElem_toArray, List.getElem_cons_succ, List.getElem_cons_zero, Act.put, List.setIfInBounds_toArray, List.set_cons_zero, List.set_cons_succ]
        refine wpAnyH_take (i := 15) (oi := _) (v := .bool false) rfl (by kernel_rfl) (by kernel_rfl) (by kernel_rfl) (fun _ _ _ h => h) (Or.inl ⟨by rfl, fun w hSw => by go_simp⟩) (by assumption) ?_
        try simp only [List.getElem_toArray, List.getElem_cons_succ, List.getElem_cons_zero, Act.put, List.setIfInBounds_toArray, List.set_cons_zero, List.set_cons_succ]
        refine wpAnyH_take (i := 16) (oi := _) (v := .bool false) rfl (by kernel_rfl) (by kernel_rfl) (by kernel_rfl) (fun _ _ _ h => h) (Or.inl ⟨by rfl, fun w hSw => by go_simp⟩) (by assumption) ?_
        try simp only [List.getElem_toArray, List.getElem_cons_succ, List.getElem_cons_zero, Act.put, List.setIfInBounds_toArray, List.set_cons_zero, List.set_cons_succ]
        refine wpAnyH_take (i := 17) (oi := _) (v := .int .i64 k) rfl (by kernel_rfl) (by kernel_rfl) (by kernel_rfl) (fun _ _ _ h => h) (Or.inl ⟨by rfl, fun w hSw => by go_simp⟩) (by assumption) ?_
        try simp only [List.getElem_toArray, List.getElem_cons_succ, List.getElem_cons_zero, Act.put, List.setIfInBounds_toArray, List.set_cons_zero, List.set_cons_succ]
        refine wpAnyH_take (i := 18) (oi := _) (v := .bool false) rfl (by kernel_rfl) (by kernel_rfl) (by kernel_rfl) (fun _ _ _ h => h) (Or.inl ⟨by rfl, fun w hSw => by go_simp⟩) (by assumption) ?_
        try simp only [List.getElem_toArray, List.getElem_cons_succ, List.getElem_cons_zero, Act.put, List.setIfInBounds_toArray, List.set_cons_zero, List.set_cons_succ]
        refine wpAnyH_take (i := 19) (oi := _) (v := .bool false) rfl (by kernel_rfl) (by kernel_rfl) (by kernel_rfl) (fun _ _ _ h => h) (Or.inl ⟨by rfl, fun w hSw => by go_simp⟩) (by assumption) ?_
        try simp only [List.getElem_toArray, List.getElem_cons_succ, List.getElem_cons_zero, Act.put, List.setIfInBounds_toArray, List.set_cons_zero, List.set_cons_succ]
        refine wpAnyH_take (i := 20) (oi := _) (v := undef) rfl (by kernel_rfl) (by kernel_rfl) (by kernel_rfl) (fun _ _ _ h => h) (Or.inr ⟨by kernel_rfl, rfl⟩) (by assumption) ?_
        try simp only [List.getElem_toArray, List.getElem_cons_succ, List.getElem_cons_zero, Act.put, List.setIfInBounds_toArray, List.set_cons_zero, List.set_cons_succ]
        refine wpAnyH_take (i := 21) (oi := _) (v := undef) rfl (by kernel_rfl) (by kernel_rfl) (by kernel_rfl) (fun _ _ _ h => h) (Or.inr ⟨by kernel_rfl, rfl⟩) (by assumption) ?_
        try simp only [List.getElem_toArray, List.getElem_cons_succ, List.getElem_cons_zero, Act.put, List.setIfInBounds_toArray, List.set_cons_zero, List.set_cons_succ]
        refine wpAnyH_take (i := 22) (oi := _) (v := undef) rfl (by kernel_rfl) (by kernel_rfl) (by kernel_rfl) (fun _ _ _ h => h) (Or.inr ⟨by kernel_rfl, rfl⟩) (by assumption) ?_
        try simp only [List.getElem_toArray, List.getElem_cons_succ, List.getElem_cons_zero, Act.put, List.setIfInBounds_toArray, List.set_cons_zero, List.set_cons_succ]
        refine wpAnyH_take (i := 23) (oi := _) (v := undef) rfl (by kernel_rfl) (by kernel_rfl) (by kernel_rfl) (fun _ _ _ h => h) (Or.inr ⟨by kernel_rfl, rfl⟩) (by assumption) ?_
        try simp only [List.getElem_toArray, List.getElem_cons_succ, List.getElem_cons_zero, Act.put, List.setIfInBounds_toArray, List.set_cons_zero, List.set_cons_succ]
        refine wpAnyH_take (i := 24) (oi := _) (v := undef) rfl (by kernel_rfl) (by kernel_rfl) (by kernel_rfl) (fun _ _ _ h => h) (Or.inr ⟨by kernel_rfl, rfl⟩) (by assumption) ?_
        try simp only [List.getElem_toArray, List.getElem_cons_succ, List.getElem_cons_zero, Act.put, List.setIfInBounds_toArray, List.set_cons_zero, List.set_cons_succ]
        refine wpAnyH_take (i := 25) (oi := _) (v := undef) rfl (by kernel_rfl) (by kernel_rfl) (by kernel_rfl) (fun _ _ _ h => h) (Or.inr ⟨by kernel_rfl, rfl⟩) (by assumption) ?_
        try simp only [List.getElem_toArray, List.getElem_cons_succ, List.getElem_cons_zero, Act.put, List.setIfInBounds_toArray, List.set_cons_zero, List.set_cons_succ]
        refine wpAnyH_take (i := 26) (oi := _) (v := undef) rfl (by kernel_rfl) (by kernel_rfl) (by kernel_rfl) (fun _ _ _ h => h) (Or.inr ⟨by kernel_rfl, rfl⟩) (by assumption) ?_
        try simp only [List.getElem_toArray, List.getElem_cons_succ, List.getElem_cons_zero, Act.put, List.setIfInBounds_toArray, List.set_cons_zero, List.set_cons_succ]
        refine wpAnyH_take (i := 27) (oi := _) (v := undef) rfl (by kernel_rfl) (by kernel_rfl) (by kernel_rfl) (fun _ _ _ h => h) (Or.inr ⟨by kernel_rfl, rfl⟩) (by assumption) ?_
        try simp only [List.getElem_toArray, List.getElem_cons_succ, List.getElem_cons_zero, Act.put, List.setIfInBounds_toArray, List.set_cons_zero, List.set_cons_succ]
        refine wpAnyH_take (i := 28) (oi := _) (v := undef) rfl (by kernel_rfl) (by kernel_rfl) (by kernel_rfl) (fun _ _ _ h => h) (Or.inr ⟨by kernel_rfl, rfl⟩) (by assumption) ?_
        try simp only [List.getElem_toArray, List.getElem_cons_succ, List.getElem_cons_zero, Act.put, List.setIfInBounds_toArray, List.set_cons_zero, List.set_cons_succ]
        refine wpAnyH_take (i := 29) (oi := _) (v := undef) rfl (by kernel_rfl) (by kernel_rfl) (by kernel_rfl) (fun _ _ _ h => h) (Or.inr ⟨by kernel_rfl, rfl⟩) (by assumption) ?_
        try simp only [List.getElem_toArray, List.getElem_cons_succ, List.getElem_cons_zero, Act.put, List.setIfInBounds_toArray, List.set_cons_zero, List.set_cons_succ]
        refine wpAnyH_take (i := 30) (oi := _) (v := undef) rfl (by kernel_rfl) (by kernel_rfl) (by kernel_rfl) (fun _ _ _ h => h) (Or.inr ⟨by kernel_rfl, rfl⟩) (by assumption) ?_
        try simp only [List.getElem_toArray, List.getElem_cons_succ, List.getElem_cons_zero, Act.put, List.setIfInBounds_toArray, List.set_cons_zero, List.set_cons_succ]
        refine wpAnyH_take (i := 31) (oi := _) (v := undef) rfl (by kernel_rfl) (by kernel_rfl) (by kernel_rfl) (fun _ _ _ h => h) (Or.inr ⟨by kernel_rfl, rfl⟩) (by assumption) ?_
        try simp only [List.getElem_toArray, List.getElem_cons_succ, List.getElem_cons_zero, Act.put, List.setIfInBounds_toArray, List.set_cons_zero, List.set_cons_succ]
        refine wpAnyH_take (i := 32) (oi := _) (v := .bool false) rfl (by kernel_rfl) (by kernel_rfl) (by kernel_rfl) (fun _ _ _ h => h) (Or.inl ⟨by rfl, fun w hSw => by go_simp⟩) (by assumption) ?_
        try simp only [List.getElem_toArray, List.getElem_cons_succ, List.getElem_cons_zero, Act.put, List.setIfInBounds_toArray, List.set_cons_zero, List.set_cons_succ]
        refine wpAnyH_take (i := 33) (oi := _) (v := .bool false) rfl (by kernel_rfl) (by kernel_rfl) (by kernel_rfl) (fun _ _ _ h => h) (Or.inl ⟨by rfl, fun w hSw => by go_simp⟩) (by assumption) ?_
        try simp only [List.getElem_toArray, List.getElem_cons_succ, List.getElem_cons_zero, Act.put, List.setIfInBounds_toArray, List.set_cons_zero, List.set_cons_succ]
        refine wpAnyH_done (by kernel_rfl) ?_ _
        refine NoPanic.normal ?_
        try simp only [List.getElem_toArray, List.getElem_cons_succ, List.getElem_cons_zero, Act.put, List.setIfInBounds_toArray, List.set_cons_zero, List.set_cons_succ]
        go_wp2_with fail
        go_roundw
        case rel => exact ⟨k + 1, by omega, by go_num, HK.out.trans HK5.out⟩
        case measure => simp [intOf] <;> omega
      · obtain ⟨q, hq⟩ : ∃ q, k = q + 1 := ⟨k - 1, by omega⟩
        obtain ⟨ad', p, he, hr', h3', _⟩ := (HA.out.kept HK.out (fun _ _ => id)).at_ (show q < n by omega)
        injection he with he
        subst he
        have g0 := h3'.c0
        have eq : IntKind.i64.wrap ((k : Int) - 1) = (q : Int) := by rw [IntWalk.i64_in _ ⟨by omega, by omega⟩]; omega
        have t3 : (0 : Int) ≤ (q : Int) := by omega
        have t4 : (q : Int) < (n : Int) := by omega
        have z0 : decide ((0 : Int) < (k : Int)) = true := decide_eq_true (by omega)
        have z1 : decide (0 < k) = true := decide_eq_true (by omega)
        have KA : wr.drew.cell? (ad.add (k * 3)) = some (.int .i64 r.n) ∧ wr.drew.cell? ⟨(ad.add (k * 3)).block, (ad.add (k * 3)).off + 1, none⟩ = some (.string r.s) ∧ wr.drew.cell? (ad.add (q * 3)) = some (.int .i64 p.n) := ⟨c0, c1, g0⟩
        have HG0 := Lib.hid g0
        have hlt' := HAT.out p (by omega) (by rw [show k - 1 = q by omega]; exact hr')
        have z2 : decide (r.n ≤ p.n) = false := decide_eq_false (by omega)
        clear hq hr' h3' h0 g0 hlt'
        go_region_held3 (fun w' => w'.cell? (ad.add (k * 3)) = some (.int .i64 r.n) ∧ w'.cell? ⟨(ad.add (k * 3)).block, (ad.add (k * 3)).off + 1, none⟩ = some (.string r.s) ∧ w'.cell? (ad.add (q * 3)) = some (.int .i64 p.n))
            (first | with_reducible exact KB | with_reducible exact KA)
            (first
              | (go_at_call 18; refine (cN _).mono ?_; rintro e w' ⟨rfl, hw⟩; have hw2 := hw.symm; subst hw2)
              | (go_at_call 19; refine (cC _ hTd).mono ?_; rintro e w5 ⟨rfl, hk5⟩; have HK5 := Lib.hid (((Kept.refl (fun _ => False) wr).drew).trans hk5); have KB : w5.cell? (ad.add (k * 3)) = some (.int .i64 r.n) ∧ w5.cell? ⟨(ad.add (k * 3)).block, (ad.add (k * 3)).off + 1, none⟩ = some (.string r.s) ∧ w5.cell? (ad.add (q * 3)) = some (.int .i64 p.n) := ⟨(H3.out.kept HK5.out id).c0, (H3.out.kept HK5.out id).c1, cell_kept HK5.out HG0.out id⟩; clear hk5))
        all_goals
          go_wp2_with fail
          go_roundw
          case rel => exact ⟨k + 1, by omega, by go_num, HK.out.trans HK5.out⟩
          case measure => simp [intOf] <;> omega
    · obtain rfl : k = k0 := by omega
      by_cases hlt : k < n
      · have HEF : Hid (E = false) := by show _ = _; rw [← HE.out]; exact decide_eq_false (by omega)
        obtain ⟨ad, r, rfl, hr, h3, hsz⟩ := (HA.out.kept HK.out (fun _ _ => id)).at_ hlt
        have c0 := h3.c0
        have c1 := h3.c1
        have b1 : decide (k < n) = true := decide_eq_true hlt
        have b2 : decide ((k : Int) < (n : Int)) = true := decide_eq_true (by omega)
        have t1 : (0 : Int) ≤ (k : Int) := by omega
        have t2 : (k : Int) < (n : Int) := by omega
        have cN := fun W => rname_any r.n W
        have cC := fun W (h : Tabs W) => rmay_any r.s W hsz h
        have hdr : Kept (fun _ => False) wr wr.drew := (Kept.refl _ _).drew
        have hTd := (HT.out.kept HK.out id id).kept hdr id id
        have H3 := Lib.hid h3
        have HR := Lib.hid hr
        clear hr h3 hsz hdr
        have hbad := HBAD.out hlt
        go_wp2_with fail
        by_cases hnm : Rs.Nm r.n
        · rw [decide_eq_true hnm] at cN
          cases hmb : mayB r.s with
          | false =>
            rw [hmb] at cC
            have KA : wr.drew.cell? (ad.add (k * 3)) = some (.int .i64 r.n) ∧ wr.drew.cell? ⟨(ad.add (k * 3)).block, (ad.add (k * 3)).off + 1, none⟩ = some (.string r.s) := ⟨c0, c1⟩
            clear hbad hnm hmb hlk
            refine wp_region_noPanic ?_
            refine wp_region_held_drew (S := (fun (w' : World) => w'.cell? (ad.add (k * 3)) = some (.int .i64 r.n) ∧ w'.cell? ⟨(ad.add (k * 3)).block, (ad.add (k * 3)).off + 1, none⟩ = some (.string r.s))) (by kernel_rfl) KA (fun hHeld => ?_)
            refine wpAnyH_take (i := 0) (oi := _) (v := .slice (some ad) n c) rfl (by kernel_rfl) (by kernel_rfl) (by kernel_rfl) (fun _ _ _ h => h) (Or.inl ⟨by rfl, fun w hSw => by go_simp⟩) (by assumption) ?_
            try simp only [List.getElem_toArray, List.getElem_cons_succ, List.getElem_cons_zero, Act.put, List.setIfInBounds_toArray, List.set_cons_zero, List.set_cons_succ]
            refine wpAnyH_take (i := 1) (oi := _) (v := .int .i64 k) rfl (by kernel_rfl) (by kernel_rfl) (by kernel_rfl) (fun _ _ _ h => h) (Or.inl ⟨by rfl, fun w hSw => by go_simp⟩) (by assumption) ?_
            try simp only [List.getElem_toArray, List.getElem_cons_succ, List.getElem_cons_zero, Act.put, List.setIfInBounds_toArray, List.set_cons_zero, List.set_cons_succ]
            refine wpAnyH_take (i := 2) (oi := _) (v := .pointer (some (ad.add (k * 3)))) rfl (by kernel_rfl) (by kernel_rfl) (by kernel_rfl) (fun _ _ _ h => h) (Or.inl ⟨by rfl, fun w hSw => by go_simp⟩) (by assumption) ?_
            try simp only [List.getElem_toArray, List.getElem_cons_succ, List.getElem_cons_zero, Act.put, List.setIfInBounds_toArray, List.set_cons_zero, List.set_cons_succ]
            refine wpAnyH_take (i := 3) (oi := _) (v := .pointer (some (ad.add (k * 3)))) rfl (by kernel_rfl) (by kernel_rfl) (by kernel_rfl) (fun _ _ _ h => h) (Or.inl ⟨by rfl, fun w hSw => by go_simp⟩) (by assumption) ?_
            try simp only [List.getElem_toArray, List.getElem_cons_succ, List.getElem_cons_zero, Act.put, List.setIfInBounds_toArray, List.set_cons_zero, List.set_cons_succ]
            refine wpAnyH_take (i := 4) (oi := _) (v := .int .i64 r.n) rfl (by kernel_rfl) (by kernel_rfl) (by kernel_rfl) (fun _ _ _ h => h) (Or.inl ⟨by rfl, fun w hSw => by go_simp⟩) (by assumption) ?_
            try simp only [List.getElem_toArray, List.getElem_cons_succ, List.getElem_cons_zero, Act.put, List.setIfInBounds_toArray, List.set_cons_zero, List.set_cons_succ]
            refine wpAnyH_ready (rs := [5]) (by kernel_rfl) (by simp) ?_
            refine AllReadyH.cons rfl (fun K hK => ?_) AllReadyH.nil
            go_simp
            refine (cN _).mono ?_
            rintro e w' ⟨rfl, hw⟩
            have hw2 := hw.symm
            subst hw2
            refine hK.out _ _ KA (fun hHeld5 => ?_)
            clear hK K
            refine wpAnyH_take (i := 6) (oi := _) (v := .bool false) rfl (by kernel_rfl) (by kernel_rfl) (by kernel_rfl) (fun _ _ _ h => h) (Or.inl ⟨by rfl, fun w hSw => by go_simp⟩) (by assumption) ?_
            try simp only [List.getElem_toArray, List.getElem_cons_succ, List.getElem_cons_zero, Act.put, List.setIfInBounds_toArray, List.set_cons_zero, List.set_cons_succ]
            refine wpAnyH_take (i := 7) (oi := _) (v := .bool false) rfl (by kernel_rfl) (by kernel_rfl) (by kernel_rfl) (fun _ _ _ h => h) (Or.inl ⟨by rfl, fun w hSw => by go_simp⟩) (by assumption) ?_
            try simp only [List.getElem_toArray, List.getElem_cons_succ, List.getElem_cons_zero, Act.put, List.setIfInBounds_toArray, List.set_cons_zero, List.set_cons_succ]
            refine wpAnyH_take (i := 8) (oi := _) (v := .slice (some ad) n c) rfl (by kernel_rfl) (by kernel_rfl) (by kernel_rfl) (fun _ _ _ h => h) (Or.inl ⟨by rfl, fun w hSw => by go_simp⟩) (by assumption) ?_
            try simp only [List.getElem_toArray, List.getElem_cons_succ, List.getElem_cons_zero, Act.put, List.setIfInBounds_toArray, List.set_cons_zero, List.set_cons_succ]
            refine wpAnyH_take (i := 9) (oi := _) (v := .int .i64 k) rfl (by kernel_rfl) (by kernel_rfl) (by kernel_rfl) (fun _ _ _ h => h) (Or.inl ⟨by rfl, fun w hSw => by go_simp⟩) (by assumption) ?_
            try simp only [List.getElem_toArray, List.getElem_cons_succ, List.getElem_cons_zero, Act.put, List.setIfInBounds_toArray, List.set_cons_zero, List.set_cons_succ]
            refine wpAnyH_take (i := 10) (oi := _) (v := .pointer (some (ad.add (k * 3)))) rfl (by kernel_rfl) (by kernel_rfl) (by kernel_rfl) (fun _ _ _ h => h) (Or.inl ⟨by rfl, fun w hSw => by go_simp⟩) (by assumption) ?_
            try simp only [List.getElem_toArray, List.getElem_cons_succ, List.getElem_cons_zero, Act.put, List.setIfInBounds_toArray, List.set_cons_zero, List.set_cons_succ]
            refine wpAnyH_take (i := 11) (oi := _) (v := .pointer (some ⟨(ad.add (k * 3)).block, (ad.add (k * 3)).off + 1, none⟩)) rfl (by kernel_rfl) (by kernel_rfl) (by kernel_rfl) (fun _ _ _ h => h) (Or.inl ⟨by rfl, fun w hSw => by go_simp⟩) (by assumption) ?_
            try simp only [List.getElem_toArray, List.getElem_cons_succ, List.getElem_cons_zero, Act.put, List.setIfInBounds_toArray, List.set_cons_zero, List.set_cons_succ]
            refine wpAnyH_take (i := 12) (oi := _) (v := .string r.s) rfl (by kernel_rfl) (by kernel_rfl) (by kernel_rfl) (fun _ _ _ h => h) (Or.inl ⟨by rfl, fun w hSw => by go_simp⟩) (by assumption) ?_
            try simp only [List.getElem_toArray, List.getElem_cons_succ, List.getElem_cons_zero, Act.put, List.setIfInBounds_toArray, List.set_cons_zero, List.set_cons_succ]
            refine wpAnyH_ready (rs := [13]) (by kernel_rfl) (by simp) ?_
            refine AllReadyH.cons rfl (fun K hK => ?_) AllReadyH.nil
            go_simp
            refine (cC _ hTd).mono ?_
            rintro e w5 ⟨rfl, hk5⟩
            have HK5 := Lib.hid (((Kept.refl (fun _ => False) wr).drew).trans hk5)
            have KB := (show w5.cell? (ad.add (k * 3)) = some (.int .i64 r.n) ∧ w5.cell? ⟨(ad.add (k * 3)).block, (ad.add (k * 3)).off + 1, none⟩ = some (.string r.s) from ⟨(H3.out.kept HK5.out id).c0, (H3.out.kept HK5.out id).c1⟩)
            refine hK.out _ _ KB (fun hHeld13 => ?_)
            clear hK K hk5
            refine wpAnyH_take (i := 14) (oi := _) (v := .bool true) rfl (by kernel_rfl) (by kernel_rfl) (by kernel_rfl) (fun _ _ _ h => h) (Or.inl ⟨by rfl, fun w hSw => by go_simp⟩) (by assumption) ?_
            try simp only [List.getElem_toArray, List.getElem_cons_succ, List.getElem_cons_zero, Act.put, List.setIfInBounds_toArray, List.set_cons_zero, List.set_cons_succ]
            refine wpAnyH_take (i := 15) (oi := _) (v := .bool true) rfl (by kernel_rfl) (by kernel_rfl) (by kernel_rfl) (fun _ _ _ h => h) (Or.inl ⟨by rfl, fun w hSw => by go_simp⟩) (by assumption) ?_
            try simp only [List.getElem_toArray, List.getElem_cons_succ, List.getElem_cons_zero, Act.put, List.setIfInBounds_toArray, List.set_cons_zero, List.set_cons_succ]
            refine wpAnyH_take (i := 16) (oi := _) (v := .bool true) rfl (by kernel_rfl) (by kernel_rfl) (by kernel_rfl) (fun _ _ _ h => h) (Or.inl ⟨by rfl, fun w hSw => by go_simp⟩) (by assumption) ?_
            try simp only [List.getElem_toArray, List.getElem_cons_succ, List.getElem_cons_zero, Act.put, List.setIfInBounds_toArray, List.set_cons_zero, List.set_cons_succ]
            refine wpAnyH_take (i := 17) (oi := _) (v := undef) rfl (by kernel_rfl) (by kernel_rfl) (by kernel_rfl) (fun _ _ _ h => h) (Or.inr ⟨by kernel_rfl, rfl⟩) (by assumption) ?_
            try simp only [List.getElem_toArray, List.getElem_cons_succ, List.getElem_cons_zero, Act.put, List.setIfInBounds_toArray, List.set_cons_zero, List.set_cons_succ]
            refine wpAnyH_take (i := 18) (oi := _) (v := undef) rfl (by kernel_rfl) (by kernel_rfl) (by kernel_rfl) (fun _ _ _ h => h) (Or.inr ⟨by kernel_rfl, rfl⟩) (by assumption) ?_
            try simp only [List.getElem_toArray, List.getElem_cons_succ, List.getElem_cons_zero, Act.put, List.setIfInBounds_toArray, List.set_cons_zero, List.set_cons_succ]
            refine wpAnyH_take (i := 19) (oi := _) (v := undef) rfl (by kernel_rfl) (by kernel_rfl) (by kernel_rfl) (fun _ _ _ h => h) (Or.inr ⟨by kernel_rfl, rfl⟩) (by assumption) ?_
            try simp only [List.getElem_toArray, List.getElem_cons_succ, List.getElem_cons_zero, Act.put, List.setIfInBounds_toArray, List.set_cons_zero, List.set_cons_succ]
            refine wpAnyH_take (i := 20) (oi := _) (v := undef) rfl (by kernel_rfl) (by kernel_rfl) (by kernel_rfl) (fun _ _ _ h => h) (Or.inr ⟨by kernel_rfl, rfl⟩) (by assumption) ?_
            try simp only [List.getElem_toArray, List.getElem_cons_succ, List.getElem_cons_zero, Act.put, List.setIfInBounds_toArray, List.set_cons_zero, List.set_cons_succ]
            refine wpAnyH_take (i := 21) (oi := _) (v := undef) rfl (by kernel_rfl) (by kernel_rfl) (by kernel_rfl) (fun _ _ _ h => h) (Or.inr ⟨by kernel_rfl, rfl⟩) (by assumption) ?_
            try simp only [List.getElem_toArray, List.getElem_cons_succ, List.getElem_cons_zero, Act.put, List.setIfInBounds_toArray, List.set_cons_zero, List.set_cons_succ]
            refine wpAnyH_take (i := 22) (oi := _) (v := undef) rfl (by kernel_rfl) (by kernel_rfl) (by kernel_rfl) (fun _ _ _ h => h) (Or.inr ⟨by kernel_rfl, rfl⟩) (by assumption) ?_
            try simp only [List.getElem_toArray, List.getElem_cons_succ, List.getElem_cons_zero, Act.put, List.setIfInBounds_toArray, List.set_cons_zero, List.set_cons_succ]
            refine wpAnyH_take (i := 23) (oi := _) (v := undef) rfl (by kernel_rfl) (by kernel_rfl) (by kernel_rfl) (fun _ _ _ h => h) (Or.inr ⟨by kernel_rfl, rfl⟩) (by assumption) ?_
            try simp only [List.getElem_toArray, List.getElem_cons_succ, List.getElem_cons_zero, Act.put, List.setIfInBounds_toArray, List.set_cons_zero, List.set_cons_succ]
            refine wpAnyH_take (i := 24) (oi := _) (v := undef) rfl (by kernel_rfl) (by kernel_rfl) (by kernel_rfl) (fun _ _ _ h => h) (Or.inr ⟨by kernel_rfl, rfl⟩) (by assumption) ?_
            try simp only [List.getElem_toArray, List.getElem_cons_succ, List.getElem_cons_zero, Act.put, List.setIfInBounds_toArray, List.set_cons_zero, List.set_cons_succ]
            refine wpAnyH_take (i := 25) (oi := _) (v := undef) rfl (by kernel_rfl) (by kernel_rfl) (by kernel_rfl) (fun _ _ _ h => h) (Or.inr ⟨by kernel_rfl, rfl⟩) (by assumption) ?_
            try simp only [List.getElem_toArray, List.getElem_cons_succ, List.getElem_cons_zero, Act.put, List.setIfInBounds_toArray, List.set_cons_zero, List.set_cons_succ]
            refine wpAnyH_take (i := 26) (oi := _) (v := undef) rfl (by kernel_rfl) (by kernel_rfl) (by kernel_rfl) (fun _ _ _ h => h) (Or.inr ⟨by kernel_rfl, rfl⟩) (by assumption) ?_
            try simp only [List.getElem_toArray, List.getElem_cons_succ, List.getElem_cons_zero, Act.put, List.setIfInBounds_toArray, List.set_cons_zero, List.set_cons_succ]
            refine wpAnyH_take (i := 27) (oi := _) (v := undef) rfl (by kernel_rfl) (by kernel_rfl) (by kernel_rfl) (fun _ _ _ h => h) (Or.inr ⟨by kernel_rfl, rfl⟩) (by assumption) ?_
            try simp only [List.getElem_toArray, List.getElem_cons_succ, List.getElem_cons_zero, Act.put, List.setIfInBounds_toArray, List.set_cons_zero, List.set_cons_succ]
            refine wpAnyH_take (i := 28) (oi := _) (v := undef) rfl (by kernel_rfl) (by kernel_rfl) (by kernel_rfl) (fun _ _ _ h => h) (Or.inr ⟨by kernel_rfl, rfl⟩) (by assumption) ?_
            try simp only [List.getElem_toArray, List.getElem_cons_succ, List.getElem_cons_zero, Act.put, List.setIfInBounds_toArray, List.set_cons_zero, List.set_cons_succ]
            refine wpAnyH_take (i := 29) (oi := _) (v := undef) rfl (by kernel_rfl) (by kernel_rfl) (by kernel_rfl) (fun _ _ _ h => h) (Or.inr ⟨by kernel_rfl, rfl⟩) (by assumption) ?_
            try simp only [List.getElem_toArray, List.getElem_cons_succ, List.getElem_cons_zero, Act.put, List.setIfInBounds_toArray, List.set_cons_zero, List.set_cons_succ]
            refine wpAnyH_take (i := 30) (oi := _) (v := undef) rfl (by kernel_rfl) (by kernel_rfl) (by kernel_rfl) (fun _ _ _ h => h) (Or.inr ⟨by kernel_rfl, rfl⟩) (by assumption) ?_
            try simp only [List.getElem_toArray, List.getElem_cons_succ, List.getElem_cons_zero, Act.put, List.setIfInBounds_toArray, List.set_cons_zero, List.set_cons_succ]
            refine wpAnyH_take (i := 31) (oi := _) (v := undef) rfl (by kernel_rfl) (by kernel_rfl) (by kernel_rfl) (fun _ _ _ h => h) (Or.inr ⟨by kernel_rfl, rfl⟩) (by assumption) ?_
            try simp only [List.getElem_toArray, List.getElem_cons_succ, List.getElem_cons_zero, Act.put, List.setIfInBounds_toArray, List.set_cons_zero, List.set_cons_succ]
            refine wpAnyH_take (i := 32) (oi := _) (v := undef) rfl (by kernel_rfl) (by kernel_rfl) (by kernel_rfl) (fun _ _ _ h => h) (Or.inr ⟨by kernel_rfl, rfl⟩) (by assumption) ?_
            try simp only [List.getElem_toArray, List.getElem_cons_succ, List.getElem_cons_zero, Act.put, List.setIfInBounds_toArray, List.set_cons_zero, List.set_cons_succ]
            refine wpAnyH_take (i := 33) (oi := _) (v := .bool true) rfl (by kernel_rfl) (by kernel_rfl) (by kernel_rfl) (fun _ _ _ h => h) (Or.inl ⟨by rfl, fun w hSw => by go_simp⟩) (by assumption) ?_
            try simp only [List.getElem_toArray, List.getElem_cons_succ, List.getElem_cons_zero, Act.put, List.setIfInBounds_toArray, List.set_cons_zero, List.set_cons_succ]
            refine wpAnyH_done (by kernel_rfl) ?_ _
            refine NoPanic.normal ?_
            try simp only [List.getElem_toArray, List.getElem_cons_succ, List.getElem_cons_zero, Act.put, List.setIfInBounds_toArray, List.set_cons_zero, List.set_cons_succ]
            go_wp2_with fail
            go_ret
            exact ⟨by rw [HEF.out]; rfl, HK.out.trans HK5.out⟩
          | true =>
            rw [hmb] at cC
            have hord : 1 ≤ k ∧ ∀ x, M[k - 1]? = some x → r.n ≤ x.n := by
              refine Classical.byContradiction fun hc => hbad (fun r' hr' => ?_)
              rw [HR.out] at hr'
              injection hr' with hr'
              subst hr'
              refine ⟨⟨hnm, hmb⟩, fun x h1 hx => ?_⟩
              refine Classical.byContradiction fun hc2 => hc ⟨h1, fun y hy => ?_⟩
              rw [hx] at hy
              injection hy with hy
              subst hy
              omega
            obtain ⟨h1, hord⟩ := hord
            obtain ⟨q, hq⟩ : ∃ q, k = q + 1 := ⟨k - 1, by omega⟩
            obtain ⟨ad', p, he, hr', h3', _⟩ := (HA.out.kept HK.out (fun _ _ => id)).at_ (show q < n by omega)
            injection he with he
            subst he
            have g0 := h3'.c0
            have eq : IntKind.i64.wrap ((k : Int) - 1) = (q : Int) := by rw [IntWalk.i64_in _ ⟨by omega, by omega⟩]; omega
            have t3 : (0 : Int) ≤ (q : Int) := by omega
            have t4 : (q : Int) < (n : Int) := by omega
            have z0 : decide ((0 : Int) < (k : Int)) = true := decide_eq_true (by omega)
            have z1 : decide (0 < k) = true := decide_eq_true (by omega)
            have KA : wr.drew.cell? (ad.add (k * 3)) = some (.int .i64 r.n) ∧ wr.drew.cell? ⟨(ad.add (k * 3)).block, (ad.add (k * 3)).off + 1, none⟩ = some (.string r.s) ∧ wr.drew.cell? (ad.add (q * 3)) = some (.int .i64 p.n) := ⟨c0, c1, g0⟩
            have HG0 := Lib.hid g0
            have z2 : decide (r.n ≤ p.n) = true := decide_eq_true (hord p (by rw [show k - 1 = q by omega]; exact hr'))
            clear hq hr' h3' h1 g0 hord hbad hnm hmb hlk
            go_region_held3 (fun w' => w'.cell? (ad.add (k * 3)) = some (.int .i64 r.n) ∧ w'.cell? ⟨(ad.add (k * 3)).block, (ad.add (k * 3)).off + 1, none⟩ = some (.string r.s) ∧ w'.cell? (ad.add (q * 3)) = some (.int .i64 p.n))
                (first | with_reducible exact KB | with_reducible exact KA)
                (first
                  | (go_at_call 18; refine (cN _).mono ?_; rintro e w' ⟨rfl, hw⟩; have hw2 := hw.symm; subst hw2)
                  | (go_at_call 19; refine (cC _ hTd).mono ?_; rintro e w5 ⟨rfl, hk5⟩; have HK5 := Lib.hid (((Kept.refl (fun _ => False) wr).drew).trans hk5); have KB : w5.cell? (ad.add (k * 3)) = some (.int .i64 r.n) ∧ w5.cell? ⟨(ad.add (k * 3)).block, (ad.add (k * 3)).off + 1, none⟩ = some (.string r.s) ∧ w5.cell? (ad.add (q * 3)) = some (.int .i64 p.n) := ⟨(H3.out.kept HK5.out id).c0, (H3.out.kept HK5.out id).c1, cell_kept HK5.out HG0.out id⟩; clear hk5))
            all_goals
              go_wp2_with fail
              go_ret
              exact ⟨by rw [HEF.out]; rfl, HK.out.trans HK5.out⟩
        · rw [decide_eq_false hnm] at cN
          have KA : wr.drew.cell? (ad.add (k * 3)) = some (.int .i64 r.n) ∧ wr.drew.cell? ⟨(ad.add (k * 3)).block, (ad.add (k * 3)).off + 1, none⟩ = some (.string r.s) := ⟨c0, c1⟩
          clear hbad hnm hlk cC
          refine wp_region_noPanic ?_
          refine wp_region_held_drew (S := (fun (w' : World) => w'.cell? (ad.add (k * 3)) = some (.int .i64 r.n) ∧ w'.cell? ⟨(ad.add (k * 3)).block, (ad.add (k * 3)).off + 1, none⟩ = some (.string r.s))) (by kernel_rfl) KA (fun hHeld => ?_)
          refine wpAnyH_take (i := 0) (oi := _) (v := .slice (some ad) n c) rfl (by kernel_rfl) (by kernel_rfl) (by kernel_rfl) (fun _ _ _ h => h) (Or.inl ⟨by rfl, fun w hSw => by go_simp⟩) (by assumption) ?_
          try simp only [List.getElem_toArray, List.getElem_cons_succ, List.getElem_cons_zero, Act.put, List.setIfInBounds_toArray, List.set_cons_zero, List.set_cons_succ]
          refine wpAnyH_take (i := 1) (oi := _) (v := .int .i64 k) rfl (by kernel_rfl) (by kernel_rfl) (by kernel_rfl) (fun _ _ _ h => h) (Or.inl ⟨by rfl, fun w hSw => by go_simp⟩) (by assumption) ?_
          try simp only [List.getElem_toArray, List.getElem_cons_succ, List.getElem_cons_zero, Act.put, List.setIfInBounds_toArray, List.set_cons_zero, List.set_cons_succ]
          refine wpAnyH_take (i := 2) (oi := _) (v := .pointer (some (ad.add (k * 3)))) rfl (by kernel_rfl) (by kernel_rfl) (by kernel_rfl) (fun _ _ _ h => h) (Or.inl ⟨by rfl, fun w hSw => by go_simp⟩) (by assumption) ?_
          try simp only [List.getElem_toArray, List.getElem_cons_succ, List.getElem_cons_zero, Act.put, List.setIfInBounds_toArray, List.set_cons_zero, List.set_cons_succ]
          refine wpAnyH_take (i := 3) (oi := _) (v := .pointer (some (ad.add (k * 3)))) rfl (by kernel_rfl) (by kernel_rfl) (by kernel_rfl) (fun _ _ _ h => h) (Or.inl ⟨by rfl, fun w hSw => by go_simp⟩) (by assumption) ?_
          try simp only [List.getElem_toArray, List.getElem_cons_succ, List.getElem_cons_zero, Act.put, List.setIfInBounds_toArray, List.set_cons_zero, List.set_cons_succ]
          refine wpAnyH_take (i := 4) (oi := _) (v := .int .i64 r.n) rfl (by kernel_rfl) (by kernel_rfl) (by kernel_rfl) (fun _ _ _ h => h) (Or.inl ⟨by rfl, fun w hSw => by go_simp⟩) (by assumption) ?_
          try simp only [List.getElem_toArray, List.getElem_cons_succ, List.getElem_cons_zero, Act.put, List.setIfInBounds_toArray, List.set_cons_zero, List.set_cons_succ]
          refine wpAnyH_ready (rs := [5]) (by kernel_rfl) (by simp) ?_
          refine AllReadyH.cons rfl (fun K hK => ?_) AllReadyH.nil
          go_simp
          refine (cN _).mono ?_
          rintro e w' ⟨rfl, hw⟩
          have hw2 := hw.symm
          subst hw2
          refine hK.out _ _ KA (fun hHeld5 => ?_)
          clear hK K
          refine wpAnyH_take (i := 6) (oi := _) (v := .bool true) rfl (by kernel_rfl) (by kernel_rfl) (by kernel_rfl) (fun _ _ _ h => h) (Or.inl ⟨by rfl, fun w hSw => by go_simp⟩) (by assumption) ?_
          try simp only [List.getElem_toArray, List.getElem_cons_succ, List.getElem_cons_zero, Act.put, List.setIfInBounds_toArray, List.set_cons_zero, List.set_cons_succ]
          refine wpAnyH_take (i := 7) (oi := _) (v := .bool true) rfl (by kernel_rfl) (by kernel_rfl) (by kernel_rfl) (fun _ _ _ h => h) (Or.inl ⟨by rfl, fun w hSw => by go_simp⟩) (by assumption) ?_
          try simp only [List.getElem_toArray, List.getElem_cons_succ, List.getElem_cons_zero, Act.put, List.setIfInBounds_toArray, List.set_cons_zero, List.set_cons_succ]
          refine wpAnyH_take (i := 8) (oi := _) (v := undef) rfl (by kernel_rfl) (by kernel_rfl) (by kernel_rfl) (fun _ _ _ h => h) (Or.inr ⟨by kernel_rfl, rfl⟩) (by assumption) ?_
          try simp only [List.getElem_toArray, List.getElem_cons_succ, List.getElem_cons_zero, Act.put, List.setIfInBounds_toArray, List.set_cons_zero, List.set_cons_succ]
          refine wpAnyH_take (i := 9) (oi := _) (v := undef) rfl (by kernel_rfl) (by kernel_rfl) (by kernel_rfl) (fun _ _ _ h => h) (Or.inr ⟨by kernel_rfl, rfl⟩) (by assumption) ?_
          try simp only [List.getElem_toArray, List.getElem_cons_succ, List.getElem_cons_zero, Act.put, List.setIfInBounds_toArray, List.set_cons_zero, List.set_cons_succ]
          refine wpAnyH_take (i := 10) (oi := _) (v := undef) rfl (by kernel_rfl) (by kernel_rfl) (by kernel_rfl) (fun _ _ _ h => h) (Or.inr ⟨by kernel_rfl, rfl⟩) (by assumption) ?_
          try simp only [List.getElem_toArray, List.getElem_cons_succ, List.getElem_cons_zero, Act.put, List.setIfInBounds_toArray, List.set_cons_zero, List.set_cons_succ]
          refine wpAnyH_take (i := 11) (oi := _) (v := undef) rfl (by kernel_rfl) (by kernel_rfl) (by kernel_rfl) (fun _ _ _ h => h) (Or.inr ⟨by kernel_rfl, rfl⟩) (by assumption) ?_
          try simp only [List.getElem_toArray, List.getElem_cons_succ, List.getElem_cons_zero, Act.put, List.setIfInBounds_toArray, List.set_cons_zero, List.set_cons_succ]
          refine wpAnyH_take (i := 12) (oi := _) (v := undef) rfl (by kernel_rfl) (by kernel_rfl) (by kernel_rfl) (fun _ _ _ h => h) (Or.inr ⟨by kernel_rfl, rfl⟩) (by assumption) ?_
          try simp only [List.getElem_toArray, List.getElem_cons_succ, List.getElem_cons_zero, Act.put, List.setIfInBounds_toArray, List.set_cons_zero, List.set_cons_succ]
          refine wpAnyH_take (i := 13) (oi := _) (v := undef) rfl (by kernel_rfl) (by kernel_rfl) (by kernel_rfl) (fun _ _ _ h => h) (Or.inr ⟨by kernel_rfl, rfl⟩) (by assumption) ?_
          try simp only [List.getElem_toArray, List.getElem_cons_succ, List.getElem_cons_zero, Act.put, List.setIfInBounds_toArray, List.set_cons_zero, List.set_cons_succ]
          refine wpAnyH_take (i := 14) (oi := _) (v := undef) rfl (by kernel_rfl) (by kernel_rfl) (by kernel_rfl) (fun _ _ _ h => h) (Or.inr ⟨by kernel_rfl, rfl⟩) (by assumption) ?_
          try simp only [List.getElem_toArray, List.getElem_cons_succ, List.getElem_cons_zero, Act.put, List.setIfInBounds_toArray, List.set_cons_zero, List.set_cons_succ]
          refine wpAnyH_take (i := 15) (oi := _) (v := .bool true) rfl (by kernel_rfl) (by kernel_rfl) (by kernel_rfl) (fun _ _ _ h => h) (Or.inl ⟨by rfl, fun w hSw => by go_simp⟩) (by assumption) ?_
          try simp only [List.getElem_toArray, List.getElem_cons_succ, List.getElem_cons_zero, Act.put, List.setIfInBounds_toArray, List.set_cons_zero, List.set_cons_succ]
          refine wpAnyH_take (i := 16) (oi := _) (v := .bool true) rfl (by kernel_rfl) (by kernel_rfl) (by kernel_rfl) (fun _ _ _ h => h) (Or.inl ⟨by rfl, fun w hSw => by go_simp⟩) (by assumption) ?_
          try simp only [List.getElem_toArray, List.getElem_cons_succ, List.getElem_cons_zero, Act.put, List.setIfInBounds_toArray, List.set_cons_zero, List.set_cons_succ]
          refine wpAnyH_take (i := 17) (oi := _) (v := undef) rfl (by kernel_rfl) (by kernel_rfl) (by kernel_rfl) (fun _ _ _ h => h) (Or.inr ⟨by kernel_rfl, rfl⟩) (by assumption) ?_
          try simp only [List.getElem_toArray, List.getElem_cons_succ, List.getElem_cons_zero, Act.put, List.setIfInBounds_toArray, List.set_cons_zero, List.set_cons_succ]
          refine wpAnyH_take (i := 18) (oi := _) (v := undef) rfl (by kernel_rfl) (by kernel_rfl) (by kernel_rfl) (fun _ _ _ h => h) (Or.inr ⟨by kernel_rfl, rfl⟩) (by assumption) ?_
          try simp only [List.getElem_toArray, List.getElem_cons_succ, List.getElem_cons_zero, Act.put, List.setIfInBounds_toArray, List.set_cons_zero, List.set_cons_succ]
          refine wpAnyH_take (i := 19) (oi := _) (v := undef) rfl (by kernel_rfl) (by kernel_rfl) (by kernel_rfl) (fun _ _ _ h => h) (Or.inr ⟨by kernel_rfl, rfl⟩) (by assumption) ?_
          try simp only [List.getElem_toArray, List.getElem_cons_succ, List.getElem_cons_zero, Act.put, List.setIfInBounds_toArray, List.set_cons_zero, List.set_cons_succ]
          refine wpAnyH_take (i := 20) (oi := _) (v := undef) rfl (by kernel_rfl) (by kernel_rfl) (by kernel_rfl) (fun _ _ _ h => h) (Or.inr ⟨by kernel_rfl, rfl⟩) (by assumption) ?_
          try simp only [List.getElem_toArray, List.getElem_cons_succ, List.getElem_cons_zero, Act.put, List.setIfInBounds_toArray, List.set_cons_zero, List.set_cons_succ]
          refine wpAnyH_take (i := 21) (oi := _) (v := undef) rfl (by kernel_rfl) (by kernel_rfl) (by kernel_rfl) (fun _ _ _ h => h) (Or.inr ⟨by kernel_rfl, rfl⟩) (by assumption) ?_
          try simp only [List.getElem_toArray, List.getElem_cons_succ, List.getElem_cons_zero, Act.put, List.setIfInBounds_toArray, List.set_cons_zero, List.set_cons_succ]
          refine wpAnyH_take (i := 22) (oi := _) (v := undef) rfl (by kernel_rfl) (by kernel_rfl) (by kernel_rfl) (fun _ _ _ h => h) (Or.inr ⟨by kernel_rfl, rfl⟩) (by assumption) ?_
          try simp only [List.getElem_toArray, List.getElem_cons_succ, List.getElem_cons_zero, Act.put, List.setIfInBounds_toArray, List.set_cons_zero, List.set_cons_succ]
          refine wpAnyH_take (i := 23) (oi := _) (v := undef) rfl (by kernel_rfl) (by kernel_rfl) (by kernel_rfl) (fun _ _ _ h => h) (Or.inr ⟨by kernel_rfl, rfl⟩) (by assumption) ?_
          try simp only [List.getElem_toArray, List.getElem_cons_succ, List.getElem_cons_zero, Act.put, List.setIfInBounds_toArray, List.set_cons_zero, List.set_cons_succ]
          refine wpAnyH_take (i := 24) (oi := _) (v := undef) rfl (by kernel_rfl) (by kernel_rfl) (by kernel_rfl) (fun _ _ _ h => h) (Or.inr ⟨by kernel_rfl, rfl⟩) (by assumption) ?_
          try simp only [List.getElem_toArray, List.getElem_cons_succ, List.getElem_cons_zero, Act.put, List.setIfInBounds_toArray, List.set_cons_zero, List.set_cons_succ]
          refine wpAnyH_take (i := 25) (oi := _) (v := undef) rfl (by kernel_rfl) (by kernel_rfl) (by kernel_rfl) (fun _ _ _ h => h) (Or.inr ⟨by kernel_rfl, rfl⟩) (by assumption) ?_
          try simp only [List.getElem_toArray, List.getElem_cons_succ, List.getElem_cons_zero, Act.put, List.setIfInBounds_toArray, List.set_cons_zero, List.set_cons_succ]
          refine wpAnyH_take (i := 26) (oi := _) (v := undef) rfl (by kernel_rfl) (by kernel_rfl) (by kernel_rfl) (fun _ _ _ h => h) (Or.inr ⟨by kernel_rfl, rfl⟩) (by assumption) ?_
          try simp only [List.getElem_toArray, List.getElem_cons_succ, List.getElem_cons_zero, Act.put, List.setIfInBounds_toArray, List.set_cons_zero, List.set_cons_succ]
          refine wpAnyH_take (i := 27) (oi := _) (v := undef) rfl (by kernel_rfl) (by kernel_rfl) (by kernel_rfl) (fun _ _ _ h => h) (Or.inr ⟨by kernel_rfl, rfl⟩) (by assumption) ?_
          try simp only [List.getElem_toArray, List.getElem_cons_succ, List.getElem_cons_zero, Act.put, List.setIfInBounds_toArray, List.set_cons_zero, List.set_cons_succ]
          refine wpAnyH_take (i := 28) (oi := _) (v := undef) rfl (by kernel_rfl) (by kernel_rfl) (by kernel_rfl) (fun _ _ _ h => h) (Or.inr ⟨by kernel_rfl, rfl⟩) (by assumption) ?_
          try simp only [List.getElem_toArray, List.getElem_cons_succ, List.getElem_cons_zero, Act.put, List.setIfInBounds_toArray, List.set_cons_zero, List.set_cons_succ]
          refine wpAnyH_take (i := 29) (oi := _) (v := undef) rfl (by kernel_rfl) (by kernel_rfl) (by kernel_rfl) (fun _ _ _ h => h) (Or.inr ⟨by kernel_rfl, rfl⟩) (by assumption) ?_
          try simp only [List.getElem_toArray, List.getElem_cons_succ, List.getElem_cons_zero, Act.put, List.setIfInBounds_toArray, List.set_cons_zero, List.set_cons_succ]
          refine wpAnyH_take (i := 30) (oi := _) (v := undef) rfl (by kernel_rfl) (by kernel_rfl) (by kernel_rfl) (fun _ _ _ h => h) (Or.inr ⟨by kernel_rfl, rfl⟩) (by assumption) ?_
          try simp only [List.getElem_toArray, List.getElem_cons_succ, List.getElem_cons_zero, Act.put, List.setIfInBounds_toArray, List.set_cons_zero, List.set_cons_succ]
          refine wpAnyH_take (i := 31) (oi := _) (v := undef) rfl (by kernel_rfl) (by kernel_rfl) (by kernel_rfl) (fun _ _ _ h => h) (Or.inr ⟨by kernel_rfl, rfl⟩) (by assumption) ?_
          try simp only [List.getElem_toArray, List.getElem_cons_succ, List.getElem_cons_zero, Act.put, List.setIfInBounds_toArray, List.set_cons_zero, List.set_cons_succ]
          refine wpAnyH_take (i := 32) (oi := _) (v := undef) rfl (by kernel_rfl) (by kernel_rfl) (by kernel_rfl) (fun _ _ _ h => h) (Or.inr ⟨by kernel_rfl, rfl⟩) (by assumption) ?_
          try simp only [List.getElem_toArray, List.getElem_cons_succ, List.getElem_cons_zero, Act.put, List.setIfInBounds_toArray, List.set_cons_zero, List.set_cons_succ]
          refine wpAnyH_take (i := 33) (oi := _) (v := .bool true) rfl (by kernel_rfl) (by kernel_rfl) (by kernel_rfl) (fun _ _ _ h => h) (Or.inl ⟨by rfl, fun w hSw => by go_simp⟩) (by assumption) ?_
          try simp only [List.getElem_toArray, List.getElem_cons_succ, List.getElem_cons_zero, Act.put, List.setIfInBounds_toArray, List.set_cons_zero, List.set_cons_succ]
          refine wpAnyH_done (by kernel_rfl) ?_ _
          refine NoPanic.normal ?_
          try simp only [List.getElem_toArray, List.getElem_cons_succ, List.getElem_cons_zero, Act.put, List.setIfInBounds_toArray, List.set_cons_zero, List.set_cons_succ]
          go_wp2_with fail
          go_ret
          exact ⟨by rw [HEF.out]; rfl, HK.out.drew⟩
      · obtain rfl : k = n := by omega
        have HEF : Hid (E = true) := by show _ = _; rw [← HE.out]; exact decide_eq_true rfl
        have b1 : decide (k < k) = false := decide_eq_false (by omega)
        have b2 : decide ((k : Int) < (k : Int)) = false := decide_eq_false (by omega)
        go_wp2_with fail
        go_ret
        exact ⟨by rw [HEF.out]; rfl, HK.out⟩
theorem rregs_any (v : Value) (M : List RegS) (w : World) (h : Sl w v M) (hn : M.length ≤ 100000) (hT : Tabs w) :
    Calls Tryd.prog 9 #[v] w fun e w' => e = .returned (.bool (Rs.okB M)) ∧ Kept (fun _ => False) w w' := by
  obtain ⟨A, c, rfl, hA⟩ := h.open'
  cases hb : Rs.okB M with
  | true =>
    have := rregs_gen A M.length c M w hA hn M.length (Nat.le_refl _) (fun j _ => Rs.ok_of hb j) (fun h => absurd h (Nat.lt_irrefl _)) hT
    rw [decide_eq_true rfl] at this
    exact this
  | false =>
    obtain ⟨k, h1, h2, h3⟩ := first_bad hb
    have := rregs_gen A M.length c M w hA hn k (by omega) h2 (fun _ => h3) hT
    rw [decide_eq_false (by omega)] at this
    exact this
set_option maxRecDepth 100000 in
set_option maxHeartbeats 4000000 in
theorem rwithout_any (v : Value) (M : List RegS) (z : Int) (w : World) (h : Sl w v M) (hn : M.length ≤ 100000) :
    Calls Tryd.prog 39 #[v, .int .i64 z] w fun e w' => (∃ v', e = .returned v' ∧ Ow w' w.heap.size v' (Rs.wo M z)) ∧ Kept (fun _ => False) w w' := by
  obtain ⟨i0, hi, hz0, hz1, hz2⟩ := info_parts info_reg
  obtain ⟨A, c, rfl, hA⟩ := h.open'
  obtain ⟨n, hN⟩ : ∃ n, M.length = n := ⟨_, rfl⟩
  rw [hN] at hn hA ⊢
  have HA := Lib.hid hA
  have HN := Lib.hid hN
  obtain ⟨B, hB⟩ : ∃ B, w.heap.size = B := ⟨_, rfl⟩
  have HB := Lib.hid hB
  rw [hB]
  clear h hA hN hB
  go_enter Tryd.func39, Tryd.ntmps39
  go_wp2_with fail
  go_loopw [5, 6] (fun v i wr => ∃ k : Nat, k ≤ n ∧ i = .int .i64 k ∧ Ow wr B v (Rs.wo (M.take k) z) ∧ Kept (fun _ => False) w wr) (fun _ i _ => n - (intOf i).toNat)
  case atStart => exact ⟨0, Nat.zero_le _, rfl, ow_nil _ _, Kept.refl _ _⟩
  case round =>
    obtain ⟨k, hk, rfl, hown, hkept⟩ := hrel
    have HK := Lib.hid hkept
    have hsz := hkept.size
    clear hkept
    by_cases hlt : k < n
    · obtain ⟨ad, r, rfl, hr, h3, hrs⟩ := (HA.out.kept HK.out (fun _ _ => id)).at_ hlt
      have b1 : decide (k < n) = true := decide_eq_true hlt
      have b2 : decide ((k : Int) < (n : Int)) = true := decide_eq_true (by omega)
      have t1 : (0 : Int) ≤ (k : Int) := by omega
      have t2 : (k : Int) < (n : Int) := by omega
      have c0 := h3.c0
      have c1 := h3.c1
      have c2 := h3.c2
      have hst := Rs.wo_step (z := z) hr
      have hLL : (Rs.wo (M.take k) z).length ≤ n := by have := Rs.wo_len (M.take k) z; rw [List.length_take] at this; omega
      have hBw : B ≤ wr.heap.size := by have := HB.out; omega
      generalize Rs.wo (M.take k) z = L at *
      have HST := Lib.hid hst
      clear hr h3 hst
      by_cases hx : r.n = z
      · have b3 : (r.n != z) = false := by simp [hx]
        have HE : Hid (Rs.wo (M.take (k + 1)) z = L) := by show _ = _; rw [HST.out, if_neg (fun h => h hx), List.append_nil]
        clear hx
        go_wp2_with fail
        go_roundw
        case rel => exact ⟨k + 1, by omega, by go_num, by rw [HE.out]; exact hown, HK.out⟩
        case measure => simp [intOf] <;> omega
      · have b3 : (r.n != z) = true := by simp [hx]
        have HE : Hid (Rs.wo (M.take (k + 1)) z = L ++ [r]) := by show _ = _; rw [HST.out, if_pos hx]
        clear hx
        go_wp2_with (at_builtin; refine wpList_append_own_at _ rfl (.tmp 20) (.tmp 25) 22 rfl B 41 i0 (.agg #[.int .i64 0, .string ⟨#[]⟩, .bool false]) 3 32 Tryd.underlying22 hi hz0 hz1 hz2 rfl (by decide) _ _ _ rfl (World.ownsRow.alloc hown.own _) ⟨_, 0, none⟩ 1 1 (RegS.vs r) rfl rfl three_cells three_one (by unfold maxLen; omega) (by omega) (by have := HB.out; simp <;> omega) ?_; intro v5 w5 hown5 hgrow5 _ hat5; have HO5 := Lib.hid (Ow.snoc hown5 hown.sz (by omega)); have HK5 := Lib.hid (Kept.grew (HK.out.alloc _) hgrow5 (fun q hq => by have := (hown.lt q hq).1; have := HB.out; omega)); clear hown5 hgrow5 hat5)
        go_roundw
        case rel => exact ⟨k + 1, by omega, by go_num, by rw [HE.out]; exact HO5.out, HK5.out⟩
        case measure => simp [intOf] <;> omega
    · obtain rfl : k = n := by omega
      have b1 : decide (k < k) = false := decide_eq_false (by omega)
      have b2 : decide ((k : Int) < (k : Int)) = false := decide_eq_false (by omega)
      have hall : M.take k = M := List.take_of_length_le (by rw [HN.out]; exact Nat.le_refl _)
      rw [hall] at hown
      clear hall
      go_wp2_with fail
      go_ret
      exact ⟨⟨_, rfl, hown⟩, HK.out⟩
theorem drop_at {M : List RegS} {k : Nat} {q : RegS} (h : M[k]? = some q) : M.drop k = q :: M.drop (k + 1) := by
  have hk : k < M.length := by
    by_cases hk : k < M.length
    · exact hk
    · rw [List.getElem?_eq_none (by omega)] at h; cases h
  rw [List.drop_eq_getElem_cons hk]
  rw [List.getElem?_eq_getElem hk] at h
  injection h with h
  rw [h]
theorem wi_len : ∀ (M : List RegS) (r : RegS), (Rs.wi M r).length ≤ M.length + 1
  | [], r => Nat.le_refl _
  | q :: M, r => by
    unfold Rs.wi
    split
    · have := Rs.wo_len (q :: M) r.n
      rw [List.length_cons]
      omega
    · have := wi_len M r
      rw [List.length_cons, List.length_cons]
      omega
set_option maxRecDepth 100000 in
set_option maxHeartbeats 8000000 in
theorem rwith_any (v : Value) (M : List RegS) (r : RegS) (w : World) (h : Sl w v M) (hn : M.length ≤ 100000) (hrz : r.s.size ≤ 140737488351232) :
    Calls Tryd.prog 38 #[v, regV r] w fun e w' => (∃ v', e = .returned v' ∧ Ow w' w.heap.size v' (Rs.wi M r)) ∧ Kept (fun _ => False) w w' := by
  obtain ⟨i0, hi, hz0, hz1, hz2⟩ := info_parts info_reg
  obtain ⟨A, c, rfl, hA⟩ := h.open'
  obtain ⟨n, hN⟩ : ∃ n, M.length = n := ⟨_, rfl⟩
  rw [hN] at hn hA ⊢
  have hk0 : Kept (fun _ => False) w (w.alloc (regO r)) := (Kept.refl _ w).alloc _
  have hbx : Rg3 (w.alloc (regO r)) ⟨w.heap.size, 0, none⟩ r := rg3_new
  have HA := Lib.hid (hA.kept hk0 (fun _ _ => id))
  have HN := Lib.hid hN
  have HK0 := Lib.hid hk0
  have HBX := Lib.hid hbx
  have hwl := wi_len M r
  rw [hN] at hwl
  obtain ⟨W, hW⟩ : ∃ W, Rs.wi M r = W := ⟨_, rfl⟩
  rw [hW] at hwl ⊢
  have HW := Lib.hid hW
  clear h hA hN hk0 hbx hW
  go_enter Tryd.func38, Tryd.ntmps38
  go_upto_region 1 with fail
  simp only [regO] at HA HK0 HBX
  generalize w.alloc (.cells #[.int .i64 r.n, .string r.s, .bool r.b] 41) = w1 at *
  generalize hrb : w.heap.size = cb at *
  have HRB := Lib.hid hrb
  have hsw : Hid (cb ≤ w1.heap.size) := by show _ ≤ _; have := HK0.out.size; have := HRB.out; omega
  clear hrb
  obtain ⟨B, hB⟩ : ∃ B, w1.heap.size = B := ⟨_, rfl⟩
  have HB := Lib.hid hB
  clear hB
  go_wp2_with fail
  go_loopw [5, 6, 7] (fun v d i wr => ∃ (k : Nat) (X : List RegS) (D : Bool), k ≤ n ∧ i = .int .i64 k ∧ d = .bool D ∧ Ow wr B v X ∧ (D = false → X ++ Rs.wi (M.drop k) r = W) ∧ (D = true → X ++ Rs.wo (M.drop k) r.n = W) ∧ Kept (fun _ => False) w1 wr) (fun _ _ i _ => n - (intOf i).toNat)
  case atStart => exact ⟨0, [], false, Nat.zero_le _, rfl, rfl, ow_nil _ _, fun _ => HW.out, (fun h => by cases h), Kept.refl _ _⟩
  case round =>
    obtain ⟨k, X, D, hk, rfl, rfl, hown, hDf, hDt, hkept⟩ := hrel
    have HK := Lib.hid hkept
    have hsz := hkept.size
    have hXl : X.length ≤ n + 1 := by
      cases D with
      | false =>
        have := congrArg List.length (hDf rfl)
        rw [List.length_append] at this
        omega
      | true =>
        have := congrArg List.length (hDt rfl)
        rw [List.length_append] at this
        omega
    have HDF := Lib.hid hDf
    have HDT := Lib.hid hDt
    clear hkept hDf hDt
    by_cases hlt : k < n
    · obtain ⟨ad, q, rfl, hq, h3, hqs⟩ := (HA.out.kept HK.out (fun _ _ => id)).at_ hlt
      have b1 : decide (k < n) = true := decide_eq_true hlt
      have b2 : decide ((k : Int) < (n : Int)) = true := decide_eq_true (by omega)
      have t1 : (0 : Int) ≤ (k : Int) := by omega
      have t2 : (k : Int) < (n : Int) := by omega
      have hdr := drop_at hq
      rw [hdr] at HDF HDT
      have H3 := Lib.hid h3
      have HSA : Hid (∀ W : World, Kept (fun _ => False) w1 W → W.cell? (ad.add (k * 3)) = some (.int .i64 q.n) ∧ W.cell? ⟨(ad.add (k * 3)).block, (ad.add (k * 3)).off + 1, none⟩ = some (.string q.s) ∧ W.cell? ⟨(ad.add (k * 3)).block, (ad.add (k * 3)).off + 2, none⟩ = some (.bool q.b) ∧ W.cell? ⟨cb, 0, none⟩ = some (.int .i64 r.n) ∧ W.cell? ⟨cb, 1, none⟩ = some (.string r.s) ∧ W.cell? ⟨cb, 2, none⟩ = some (.bool r.b)) := fun W hW => by
        obtain ⟨ad2, q2, e2, hq2, g3, _⟩ := (HA.out.kept hW (fun _ _ => id)).at_ hlt
        injection e2 with e2
        subst e2
        rw [hq] at hq2
        injection hq2 with hq2
        subst hq2
        have hx := (HBX.out.kept hW id).cs
        exact ⟨g3.c0, g3.c1, g3.c2, hx.1, hx.2.1, hx.2.2⟩
      clear hdr hq h3
      obtain ⟨c0, c1, c2, x0, x1, x2⟩ := HSA.out _ HK.out
      cases D
      · have HF : Hid (X ++ Rs.wi (q :: M.drop (k + 1)) r = W) := HDF.out rfl
        clear HDF HDT
        by_cases hle : r.n ≤ q.n
        · have z1 : decide (r.n ≤ q.n) = true := decide_eq_true hle
          have HF2 : Hid ((X ++ [r]) ++ Rs.wo (q :: M.drop (k + 1)) r.n = W) := by
            show _ = _
            rw [← HF.out]
            unfold Rs.wi
            rw [if_pos hle, List.append_assoc]
            rfl
          clear HF hle
          go_wp2_with fail
          go_quiet (fail)
          obtain ⟨W1, hW1⟩ : ∃ W1, wr.drewN nq = W1 := ⟨_, rfl⟩
          have hk1 : Kept (fun _ => False) wr W1 := by rw [← hW1]; exact (Kept.refl _ wr).drewN _
          have HO1 := Lib.hid (hown.keep hk1)
          have HK1 := Lib.hid (HK.out.trans hk1)
          have hs1 : w1.heap.size ≤ W1.heap.size := HK1.out.size
          rw [hW1]
          clear hW1 hk1 c0 c1 c2 x0 x1 x2 hown
          obtain ⟨c0, c1, c2, x0, x1, x2⟩ := HSA.out _ HK1.out
          go_wp2_with (at_builtin; refine wpList_append_own_at _ rfl (.tmp 26) (.tmp 28) 22 rfl B 41 i0 (.agg #[.int .i64 0, .string ⟨#[]⟩, .bool false]) 3 32 Tryd.underlying22 hi hz0 hz1 hz2 rfl (by decide) _ _ _ rfl (World.ownsRow.alloc HO1.out.own _) ⟨_, 0, none⟩ 1 1 (RegS.vs r) rfl rfl three_cells three_one (by unfold maxLen; omega) (by omega) (by have := HB.out; simp <;> omega) ?_; intro v5 w5 hown5 hgrow5 _ hat5; have HO5 := Lib.hid (Ow.snoc hown5 HO1.out.sz (by omega)); have HK5 := Lib.hid (Kept.grew (HK1.out.alloc _) hgrow5 (fun q hq => by have := (HO1.out.lt q hq).1; have := HB.out; omega)); clear c0 c1 c2 x0 x1 x2 hown5 hgrow5 hat5; have hs5 : w1.heap.size ≤ w5.heap.size := HK5.out.size; obtain ⟨c0, c1, c2, x0, x1, x2⟩ := HSA.out _ HK5.out)
          by_cases he : q.n = r.n
          · have z3 : (q.n != r.n) = false := by simp [he]
            have HF3 : Hid ((X ++ [r]) ++ Rs.wo (M.drop (k + 1)) r.n = W) := by
              show _ = _
              rw [← HF2.out, Rs.wo_cons, if_pos he]
            clear he
            go_quiet (fail)
            go_wp2_with fail
            go_roundw
            case rel => exact ⟨k + 1, X ++ [r], true, by omega, by go_num, rfl, HO5.out.keep ((Kept.refl _ w5).drewN _), (fun h => by cases h), fun _ => HF3.out, HK5.out.drewN _⟩
            case measure => simp [intOf] <;> omega
          · have z3 : (q.n != r.n) = true := by simp [he]
            have HF3 : Hid ((X ++ [r] ++ [q]) ++ Rs.wo (M.drop (k + 1)) r.n = W) := by
              show _ = _
              rw [← HF2.out, Rs.wo_cons, if_neg he, List.append_assoc (X ++ [r])]
              rfl
            clear he
            have hXl2 : (X ++ [r]).length ≤ n + 2 := by rw [List.length_append, List.length_singleton]; omega
            generalize X ++ [r] = Y at *
            go_quiet (fail)
            obtain ⟨W2, hW2⟩ : ∃ W2, w5.drewN nq = W2 := ⟨_, rfl⟩
            have hk2 : Kept (fun _ => False) w5 W2 := by rw [← hW2]; exact (Kept.refl _ w5).drewN _
            have HO2 := Lib.hid (HO5.out.keep hk2)
            have HK2 := Lib.hid (HK5.out.trans hk2)
            have hs2 : w1.heap.size ≤ W2.heap.size := HK2.out.size
            rw [hW2]
            clear hW2 hk2 c0 c1 c2 x0 x1 x2
            obtain ⟨c0, c1, c2, x0, x1, x2⟩ := HSA.out _ HK2.out
            go_wp2_with (at_builtin; refine wpList_append_own_at _ rfl (.tmp 38) (.tmp 43) 22 rfl B 41 i0 (.agg #[.int .i64 0, .string ⟨#[]⟩, .bool false]) 3 32 Tryd.underlying22 hi hz0 hz1 hz2 rfl (by decide) _ _ _ rfl (World.ownsRow.alloc HO2.out.own _) ⟨_, 0, none⟩ 1 1 (RegS.vs q) rfl rfl three_cells three_one (by unfold maxLen; omega) (by omega) (by have := HB.out; simp <;> omega) ?_; intro v6 w6 hown5 hgrow5 _ hat5; have HO6 := Lib.hid (Ow.snoc hown5 HO2.out.sz (by omega)); have HK6 := Lib.hid (Kept.grew (HK2.out.alloc _) hgrow5 (fun q hq => by have := (HO2.out.lt q hq).1; have := HB.out; omega)); clear hown5 hgrow5 hat5)
            go_roundw
            case rel => exact ⟨k + 1, Y ++ [q], true, by omega, by go_num, rfl, HO6.out, (fun h => by cases h), fun _ => HF3.out, HK6.out⟩
            case measure => simp [intOf] <;> omega
        · have z1 : decide (r.n ≤ q.n) = false := decide_eq_false hle
          have z3 : (q.n != r.n) = true := by simp; omega
          have HF3 : Hid ((X ++ [q]) ++ Rs.wi (M.drop (k + 1)) r = W) := by
            show _ = _
            rw [← HF.out]
            unfold Rs.wi
            rw [if_neg hle, List.append_assoc]
            cases M.drop (k + 1) <;> rfl
          clear HF hle
          go_wp2_with fail
          go_quiet (fail)
          obtain ⟨W1, hW1⟩ : ∃ W1, wr.drewN nq = W1 := ⟨_, rfl⟩
          have hk1 : Kept (fun _ => False) wr W1 := by rw [← hW1]; exact (Kept.refl _ wr).drewN _
          have HO1 := Lib.hid (hown.keep hk1)
          have HK1 := Lib.hid (HK.out.trans hk1)
          have hs1 : w1.heap.size ≤ W1.heap.size := HK1.out.size
          rw [hW1]
          clear hW1 hk1 c0 c1 c2 x0 x1 x2 hown
          obtain ⟨c0, c1, c2, x0, x1, x2⟩ := HSA.out _ HK1.out
          go_wp2_with fail
          go_quiet (fail)
          obtain ⟨W2, hW2⟩ : ∃ W2, W1.drewN nq = W2 := ⟨_, rfl⟩
          have hk2 : Kept (fun _ => False) W1 W2 := by rw [← hW2]; exact (Kept.refl _ W1).drewN _
          have HO2 := Lib.hid (HO1.out.keep hk2)
          have HK2 := Lib.hid (HK1.out.trans hk2)
          have hs2 : w1.heap.size ≤ W2.heap.size := HK2.out.size
          rw [hW2]
          clear hW2 hk2 c0 c1 c2 x0 x1 x2
          obtain ⟨c0, c1, c2, x0, x1, x2⟩ := HSA.out _ HK2.out
          go_wp2_with (at_builtin; refine wpList_append_own_at _ rfl (.tmp 38) (.tmp 43) 22 rfl B 41 i0 (.agg #[.int .i64 0, .string ⟨#[]⟩, .bool false]) 3 32 Tryd.underlying22 hi hz0 hz1 hz2 rfl (by decide) _ _ _ rfl (World.ownsRow.alloc HO2.out.own _) ⟨_, 0, none⟩ 1 1 (RegS.vs q) rfl rfl three_cells three_one (by unfold maxLen; omega) (by omega) (by have := HB.out; simp <;> omega) ?_; intro v6 w6 hown5 hgrow5 _ hat5; have HO6 := Lib.hid (Ow.snoc hown5 HO2.out.sz (by omega)); have HK6 := Lib.hid (Kept.grew (HK2.out.alloc _) hgrow5 (fun q hq => by have := (HO2.out.lt q hq).1; have := HB.out; omega)); clear hown5 hgrow5 hat5)
          go_roundw
          case rel => exact ⟨k + 1, X ++ [q], false, by omega, by go_num, rfl, HO6.out, fun _ => HF3.out, (fun h => by cases h), HK6.out⟩
          case measure => simp [intOf] <;> omega
      · have HF : Hid (X ++ Rs.wo (q :: M.drop (k + 1)) r.n = W) := HDT.out rfl
        clear HDF HDT
        by_cases he : q.n = r.n
        · have z3 : (q.n != r.n) = false := by simp [he]
          have HF3 : Hid (X ++ Rs.wo (M.drop (k + 1)) r.n = W) := by
            show _ = _
            rw [← HF.out, Rs.wo_cons, if_pos he]
          clear he HF
          go_wp2_with fail
          go_quiet (fail)
          obtain ⟨W1, hW1⟩ : ∃ W1, wr.drewN nq = W1 := ⟨_, rfl⟩
          have hk1 : Kept (fun _ => False) wr W1 := by rw [← hW1]; exact (Kept.refl _ wr).drewN _
          have HO1 := Lib.hid (hown.keep hk1)
          have HK1 := Lib.hid (HK.out.trans hk1)
          have hs1 : w1.heap.size ≤ W1.heap.size := HK1.out.size
          rw [hW1]
          clear hW1 hk1 c0 c1 c2 x0 x1 x2 hown
          obtain ⟨c0, c1, c2, x0, x1, x2⟩ := HSA.out _ HK1.out
          go_wp2_with fail
          go_quiet (fail)
          go_wp2_with fail
          go_roundw
          case rel => exact ⟨k + 1, X, true, by omega, by go_num, rfl, HO1.out.keep ((Kept.refl _ W1).drewN _), (fun h => by cases h), fun _ => HF3.out, HK1.out.drewN _⟩
          case measure => simp [intOf] <;> omega
        · have z3 : (q.n != r.n) = true := by simp [he]
          have HF3 : Hid ((X ++ [q]) ++ Rs.wo (M.drop (k + 1)) r.n = W) := by
            show _ = _
            rw [← HF.out, Rs.wo_cons, if_neg he, List.append_assoc]
            rfl
          clear he HF
          go_wp2_with fail
          go_quiet (fail)
          obtain ⟨W1, hW1⟩ : ∃ W1, wr.drewN nq = W1 := ⟨_, rfl⟩
          have hk1 : Kept (fun _ => False) wr W1 := by rw [← hW1]; exact (Kept.refl _ wr).drewN _
          have HO1 := Lib.hid (hown.keep hk1)
          have HK1 := Lib.hid (HK.out.trans hk1)
          have hs1 : w1.heap.size ≤ W1.heap.size := HK1.out.size
          rw [hW1]
          clear hW1 hk1 c0 c1 c2 x0 x1 x2 hown
          obtain ⟨c0, c1, c2, x0, x1, x2⟩ := HSA.out _ HK1.out
          go_wp2_with fail
          go_quiet (fail)
          obtain ⟨W2, hW2⟩ : ∃ W2, W1.drewN nq = W2 := ⟨_, rfl⟩
          have hk2 : Kept (fun _ => False) W1 W2 := by rw [← hW2]; exact (Kept.refl _ W1).drewN _
          have HO2 := Lib.hid (HO1.out.keep hk2)
          have HK2 := Lib.hid (HK1.out.trans hk2)
          have hs2 : w1.heap.size ≤ W2.heap.size := HK2.out.size
          rw [hW2]
          clear hW2 hk2 c0 c1 c2 x0 x1 x2
          obtain ⟨c0, c1, c2, x0, x1, x2⟩ := HSA.out _ HK2.out
          go_wp2_with (at_builtin; refine wpList_append_own_at _ rfl (.tmp 38) (.tmp 43) 22 rfl B 41 i0 (.agg #[.int .i64 0, .string ⟨#[]⟩, .bool false]) 3 32 Tryd.underlying22 hi hz0 hz1 hz2 rfl (by decide) _ _ _ rfl (World.ownsRow.alloc HO2.out.own _) ⟨_, 0, none⟩ 1 1 (RegS.vs q) rfl rfl three_cells three_one (by unfold maxLen; omega) (by omega) (by have := HB.out; simp <;> omega) ?_; intro v6 w6 hown5 hgrow5 _ hat5; have HO6 := Lib.hid (Ow.snoc hown5 HO2.out.sz (by omega)); have HK6 := Lib.hid (Kept.grew (HK2.out.alloc _) hgrow5 (fun q hq => by have := (HO2.out.lt q hq).1; have := HB.out; omega)); clear hown5 hgrow5 hat5)
          go_roundw
          case rel => exact ⟨k + 1, X ++ [q], true, by omega, by go_num, rfl, HO6.out, (fun h => by cases h), fun _ => HF3.out, HK6.out⟩
          case measure => simp [intOf] <;> omega
    · obtain rfl : k = n := by omega
      have b1 : decide (k < k) = false := decide_eq_false (by omega)
      have b2 : decide ((k : Int) < (k : Int)) = false := decide_eq_false (by omega)
      have hnil : M.drop k = [] := List.drop_eq_nil_of_le (by have := HN.out; omega)
      rw [hnil] at HDF HDT
      obtain ⟨x0, x1, x2⟩ := (HBX.out.kept HK.out id).cs
      have hsw1 : w1.heap.size ≤ wr.heap.size := HK.out.size
      clear hnil
      cases D
      · have HF : Hid (X ++ [r] = W) := HDF.out rfl
        clear HDF HDT
        go_wp2_with (at_builtin; refine wpList_append_own_at _ rfl (.tmp 47) (.tmp 49) 22 rfl B 41 i0 (.agg #[.int .i64 0, .string ⟨#[]⟩, .bool false]) 3 32 Tryd.underlying22 hi hz0 hz1 hz2 rfl (by decide) _ _ _ rfl (World.ownsRow.alloc hown.own _) ⟨_, 0, none⟩ 1 1 (RegS.vs r) rfl rfl three_cells three_one (by unfold maxLen; omega) (by omega) (by have := HB.out; simp <;> omega) ?_; intro v5 w5 hown5 hgrow5 _ hat5; have HO5 := Lib.hid (Ow.snoc hown5 hown.sz (by omega)); have HK5 := Lib.hid (Kept.grew (HK.out.alloc _) hgrow5 (fun q hq => by have := (hown.lt q hq).1; have := HB.out; omega)); clear hown5 hgrow5 hat5)
        go_ret
        exact ⟨⟨v5, rfl, by rw [← HF.out]; exact HO5.out.mono (by have := HB.out; have := hsw.out; have := HRB.out; omega)⟩, HK0.out.trans HK5.out⟩
      · have HF : Hid (X = W) := by
          show _ = _
          rw [← HDT.out rfl]
          exact (List.append_nil X).symm
        clear HDF HDT
        go_wp2_with fail
        go_ret
        exact ⟨⟨_, rfl, by rw [← HF.out]; exact hown.mono (by have := HB.out; have := hsw.out; have := HRB.out; omega)⟩, HK0.out.trans HK.out⟩
end Go.Proofs.YtackgnkajffhiaaDoor
