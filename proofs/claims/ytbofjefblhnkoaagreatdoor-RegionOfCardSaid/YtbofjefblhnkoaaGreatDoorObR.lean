/-
  RANGES AS RESULTS; what stands between two runes, or with them; quotes.
-/
import Derived.Test.YtbofjefblhnkoaaGreatDoorZMp
import Derived.Test.YtbofjefblhnkoaaGreatDoorObP
import Derived.Laws.ResultCell
import Derived.Test.YtbofjefblhnkoaaGreatDoorRgA
set_option linter.unusedVariables false
namespace Go.Proofs.YtbofjefblhnkoaaGreatDoor
open Go Go.RowKit

set_option maxRecDepth 100000 in
theorem inside_any (a b wide : Int) (w : World) (ha : -1 ≤ a ∧ a ≤ 100000) (hb : -1 ≤ b ∧ b ≤ 100000) :
    Calls Tryz.prog 79 #[.int .i64 a, .int .i64 b, .int .i64 wide] w fun e w' => e = .returned (rngV (Rw.ins wide a b).1 (Rw.ins wide a b).2 false) ∧ Kept (fun _ => False) w w' := by
  have e1 : IntKind.i64.wrap (a + 1) = a + 1 := wrapI rfl (by omega) (by omega)
  have e2 : IntKind.i64.wrap (b + 1) = b + 1 := wrapI rfl (by omega) (by omega)
  by_cases h : wide = 105
  · subst h
    have hi : Rw.ins 105 a b = (a + 1, b) := rfl
    rw [hi]
    clear hi
    go_enter Tryz.func79, Tryz.ntmps79
    go_wp2
    exact bodyPost_ret (res_rng rfl _ _ _ _ _ _ (0, 0) rfl (heap_alloc_new w _)) rfl ⟨rfl, (Kept.refl _ w).alloc _⟩
  · have hi : Rw.ins wide a b = (a, b + 1) := by unfold Rw.ins; rw [if_neg h]
    have b1 : (wide == 105) = false := by rw [beq_eq_false_iff_ne]; exact h
    rw [hi]
    clear hi h
    go_enter Tryz.func79, Tryz.ntmps79
    go_wp2
    exact bodyPost_ret (res_rng rfl _ _ _ _ _ _ (0, 0) rfl (heap_alloc_new w _)) rfl ⟨rfl, (Kept.refl _ w).alloc _⟩
/-- What quotes tell. -/
def qR (wide : Int) (o : Option (Nat × Nat)) : Value := ansR (o.map fun p => ((Rw.ins wide p.1 p.2).1, (Rw.ins wide p.1 p.2).2, false))
set_option maxRecDepth 100000 in
set_option maxHeartbeats 1000000 in
theorem pquoted_any (A : Option Addr) (n c k : Nat) (wide : Int) (t : List Int) (w : World) (hA : Rn w A n t) (hn : n ≤ 6000) (hk : k ≤ n) :
    Calls Tryz.prog 46 #[.slice A n c, .int .i64 k, .int .i64 wide] w fun e w' => e = .returned (qR wide (Rw.qtd t k)) ∧ Kept (fun _ => False) w w' := by
  have hlen := hA.1
  have hle := Rw.en_le t k (by omega)
  have hbl := Rw.beg_le t k
  have hge := Rw.en_ge t k
  obtain ⟨R, hR⟩ : ∃ R, Rw.quo t k (Rw.en t k) (t.length + 1) (Rw.beg t k) none = R := ⟨_, rfl⟩
  rw [show Rw.qtd t k = R from hR]
  have hka : Kept (fun _ => False) w (w.alloc (rngO 0 0 false)) := (Kept.refl _ w).alloc _
  have HA := Lib.hid (hA.kept hka (fun _ _ => id))
  have HKA := Lib.hid hka
  have HG : Hid ((w.alloc (rngO 0 0 false)).heap[w.heap.size]? = some (rngO 0 0 false)) := heap_alloc_new w _
  have cB := row_any A n c t k _ HA.out hk (by omega)
  have HL := Lib.hid hlen
  rw [hlen] at hle
  generalize Rw.en t k = h at *
  generalize Rw.beg t k = lo at *
  have HR := Lib.hid hR
  clear hA hR hlen hka
  go_enter Tryz.func46, Tryz.ntmps46
  go_wp2_with (go_at_call 35; refine cB.mono ?_; rintro e w2 ⟨rfl, hw⟩; have hw2 := hw.symm; clear hw; subst hw2; clear cB)
  obtain ⟨W1, hW1⟩ : ∃ W1, w.alloc (rngO 0 0 false) = W1 := ⟨_, rfl⟩
  obtain ⟨g, hg⟩ : ∃ g, w.heap.size = g := ⟨_, rfl⟩
  have HGS := Lib.hid hg
  rw [hW1] at HA HKA HG
  rw [hg] at HG
  simp only [hW1, hg]
  clear hW1 hg
  go_loop [9, 8] (fun v u => ∃ (f j : Nat) (o : Option Nat), v = .int .i64 j ∧ u = .int .i64 (oI o) ∧ j ≤ h ∧ h < j + f ∧ (∀ p, o = some p → p < j) ∧ Rw.quo t k h f j o = R) (fun v _ => h - (intOf v).toNat)
  case atStart => exact ⟨t.length + 1, lo, none, rfl, rfl, by omega, by have := HL.out; omega, fun p hp => (by cases hp), HR.out⟩
  case round =>
    obtain ⟨f, j, o, rfl, rfl, hjh, hf, hpj, hq⟩ := hrel
    have HQ := Lib.hid hq
    clear hq
    by_cases hlt : j < h
    · obtain ⟨f', rfl⟩ : ∃ f', f = f' + 1 := ⟨f - 1, by omega⟩
      obtain ⟨ad, x, rfl, hx, hcx⟩ := HA.out.cell (j := j) (by omega)
      have b1 : decide (j < h) = true := decide_eq_true hlt
      have b2 : decide ((j : Int) < (h : Int)) = true := decide_eq_true (by omega)
      have t1 : (0 : Int) ≤ (j : Int) := by omega
      have t2 : (j : Int) < (n : Int) := by omega
      by_cases h34 : x = 34
      · subst h34
        cases o with
        | none =>
          have e : oI none = -1 := rfl
          have HQ2 := Lib.hid (show Rw.quo t k h f' (j + 1) (some j) = R by rw [← HQ.out, Rw.quo_open hlt hx])
          simp only [e]
          clear hx e
          go_wp2_with fail
          go_round
          case rel => exact ⟨f', j + 1, some j, by go_num, rfl, by omega, by omega, fun p hp => (by injection hp with hp; omega), HQ2.out⟩
          case measure => simp [intOf] <;> omega
        | some p =>
          have e : oI (some p) = (p : Int) := rfl
          have hp := hpj p rfl
          simp only [e]
          have b3 : decide ((p : Int) < 0) = false := decide_eq_false (by omega)
          by_cases hkj : k ≤ j
          · have HQ2 := Lib.hid (show R = some (p, j) by rw [← HQ.out, Rw.quo_hit hlt hx hkj])
            have b4 : decide (k ≤ j) = true := decide_eq_true hkj
            have b5 : decide ((k : Int) ≤ (j : Int)) = true := decide_eq_true (by omega)
            have cI := inside_any p j wide W1 (by omega) (by omega)
            clear hx e
            go_wp2_with (go_at_call 79; refine cI.mono ?_; rintro e w5 ⟨rfl, hk5⟩; have h8 : w5.heap[g]? = some (rngO 0 0 false) := (hk5.block g (heap_lt HG.out) id).trans HG.out; have H8 := Lib.hid h8; have HK5 := Lib.hid (HKA.out.trans hk5); obtain ⟨f0, f1, f2⟩ := rng_facts h8; obtain ⟨y0, y1, y2⟩ := rng_free h8; clear h8 hk5 cI)
            refine bodyPost_ret (res_rng2 rfl _ _ g _ _ _ (0, 0) rfl (rng_three H8.out _ _ _)) rfl ⟨by rw [HQ2.out]; rfl, ?_⟩
            exact HK5.out.fresh (Kept.three (Kept.refl (fun q => q = g) _) rfl _ _ _) (fun q hq (e : q = g) => by have := HGS.out; omega)
          · have HQ2 := Lib.hid (show Rw.quo t k h f' (j + 1) none = R by rw [← HQ.out, Rw.quo_miss hlt hx hkj])
            have b4 : decide (k ≤ j) = false := decide_eq_false hkj
            have b5 : decide ((k : Int) ≤ (j : Int)) = false := decide_eq_false (by omega)
            clear hx e
            go_wp2_with fail
            go_round
            case rel => exact ⟨f', j + 1, none, by go_num, rfl, by omega, by omega, fun p hp => (by cases hp), HQ2.out⟩
            case measure => simp [intOf] <;> omega
      · have b3 : (x != 34) = true := by rw [bne_iff_ne]; exact h34
        have HQ2 := Lib.hid (show Rw.quo t k h f' (j + 1) o = R by rw [← HQ.out, Rw.quo_skip hlt (by rw [hx]; intro e; injection e with e; exact h34 e)])
        clear hx h34
        go_wp2_with fail
        go_round
        case rel => exact ⟨f', j + 1, o, by go_num, rfl, by omega, by omega, fun p hp => (by have := hpj p hp; omega), HQ2.out⟩
        case measure => simp [intOf] <;> omega
    · obtain rfl : j = h := by omega
      have b1 : decide (j < j) = false := decide_eq_false (by omega)
      have b2 : decide ((j : Int) < (j : Int)) = false := decide_eq_false (by omega)
      have HQ2 := Lib.hid (show R = none by rw [← HQ.out, Rw.quo_out (by omega)])
      obtain ⟨f0, f1, f2⟩ := rng_facts HG.out
      obtain ⟨y0, y1, y2⟩ := rng_free HG.out
      go_wp2_with fail
      refine bodyPost_ret (res_rng2 rfl _ _ g _ _ _ (0, 0) rfl (rng_three HG.out _ _ _)) rfl ⟨by rw [HQ2.out]; rfl, ?_⟩
      exact HKA.out.fresh (Kept.three (Kept.refl (fun q => q = g) _) rfl _ _ _) (fun q hq (e : q = g) => by have := HGS.out; omega)
set_option maxRecDepth 100000 in
set_option maxHeartbeats 1000000 in
theorem rquoted_any (A : Option Addr) (n c k : Nat) (wide : Int) (t : List Int) (w : World) (hA : Rn w A n t) (hn : n ≤ 6000) (hk : k ≤ n) :
    Calls Tryz.prog 64 #[.slice A n c, .int .i64 k, .int .i64 wide] w fun e w' => e = .returned (qR wide (Rw.qtd t k)) ∧ Kept (fun _ => False) w w' := by
  have hlen := hA.1
  have hle := Rw.en_le t k (by omega)
  have hbl := Rw.beg_le t k
  have hge := Rw.en_ge t k
  obtain ⟨R, hR⟩ : ∃ R, Rw.quo t k (Rw.en t k) (t.length + 1) (Rw.beg t k) none = R := ⟨_, rfl⟩
  rw [show Rw.qtd t k = R from hR]
  have hka : Kept (fun _ => False) w (w.alloc (rngO 0 0 false)) := (Kept.refl _ w).alloc _
  have HA := Lib.hid (hA.kept hka (fun _ _ => id))
  have HKA := Lib.hid hka
  have HG : Hid ((w.alloc (rngO 0 0 false)).heap[w.heap.size]? = some (rngO 0 0 false)) := heap_alloc_new w _
  have cB := rbegin_any A n c t k _ HA.out hk (by omega)
  have hnn : Hid (∀ j, Rw.beg t k ≤ j → j < Rw.en t k → t[j]? ≠ some 10) := fun j h1 h2 => by
    by_cases hjk : j < k
    · exact Rw.beg_none t k j h1 hjk
    · exact Rw.en_none t k j (by omega) h2
  have hat : Hid (Rw.en t k < t.length → t[Rw.en t k]? = some 10) := fun h => Rw.en_at t k h
  have HL := Lib.hid hlen
  rw [hlen] at hle
  generalize Rw.en t k = h at *
  generalize Rw.beg t k = lo at *
  have HR := Lib.hid hR
  clear hA hR hlen hka
  go_enter Tryz.func64, Tryz.ntmps64
  go_wp2_with (go_at_call 36; refine cB.mono ?_; rintro e w2 ⟨rfl, hw⟩; have hw2 := hw.symm; clear hw; subst hw2; clear cB)
  obtain ⟨W1, hW1⟩ : ∃ W1, w.alloc (rngO 0 0 false) = W1 := ⟨_, rfl⟩
  obtain ⟨g, hg⟩ : ∃ g, w.heap.size = g := ⟨_, rfl⟩
  have HGS := Lib.hid hg
  rw [hW1] at HA HKA HG
  rw [hg] at HG
  simp only [hW1, hg]
  clear hW1 hg
  go_loop [9, 8] (fun v u => ∃ (f j : Nat) (o : Option Nat), v = .int .i64 j ∧ u = .int .i64 (oI o) ∧ lo ≤ j ∧ j ≤ h ∧ h < j + f ∧ (∀ p, o = some p → p < j) ∧ Rw.quo t k h f j o = R) (fun v _ => h - (intOf v).toNat)
  case atStart => exact ⟨t.length + 1, lo, none, rfl, rfl, Nat.le_refl _, by omega, by have := HL.out; omega, fun p hp => (by cases hp), HR.out⟩
  case round =>
    obtain ⟨f, j, o, rfl, rfl, hlj, hjh, hf, hpj, hq⟩ := hrel
    have HQ := Lib.hid hq
    clear hq
    by_cases hlt : j < h
    · obtain ⟨f', rfl⟩ : ∃ f', f = f' + 1 := ⟨f - 1, by omega⟩
      obtain ⟨ad, x, rfl, hx, hcx⟩ := HA.out.cell (j := j) (by omega)
      have b1 : decide (j < n) = true := decide_eq_true (by omega)
      have b2 : decide ((j : Int) < (n : Int)) = true := decide_eq_true (by omega)
      have h10 : x ≠ 10 := fun e => hnn.out j hlj hlt (by rw [hx, e])
      have b10 : (x != 10) = true := by rw [bne_iff_ne]; exact h10
      clear h10
      have t1 : (0 : Int) ≤ (j : Int) := by omega
      have t2 : (j : Int) < (n : Int) := by omega
      by_cases h34 : x = 34
      · subst h34
        clear b10
        cases o with
        | none =>
          have e : oI none = -1 := rfl
          have HQ2 := Lib.hid (show Rw.quo t k h f' (j + 1) (some j) = R by rw [← HQ.out, Rw.quo_open hlt hx])
          simp only [e]
          clear hx e
          go_wp2_with fail
          go_round
          case rel => exact ⟨f', j + 1, some j, by go_num, rfl, by omega, by omega, by omega, fun p hp => (by injection hp with hp; omega), HQ2.out⟩
          case measure => simp [intOf] <;> omega
        | some p =>
          have e : oI (some p) = (p : Int) := rfl
          have hp := hpj p rfl
          simp only [e]
          have b3 : decide ((p : Int) < 0) = false := decide_eq_false (by omega)
          by_cases hkj : k ≤ j
          · have HQ2 := Lib.hid (show R = some (p, j) by rw [← HQ.out, Rw.quo_hit hlt hx hkj])
            have b4 : decide (k ≤ j) = true := decide_eq_true hkj
            have b5 : decide ((k : Int) ≤ (j : Int)) = true := decide_eq_true (by omega)
            obtain ⟨f0, f1, f2⟩ := rng_facts HG.out
            obtain ⟨y0, y1, y2⟩ := rng_free HG.out
            have w1 : IntKind.i64.wrap ((p : Int) + 1) = (p : Int) + 1 := wrapI rfl (by omega) (by omega)
            have w2 : IntKind.i64.wrap ((j : Int) + 1) = (j : Int) + 1 := wrapI rfl (by omega) (by omega)
            clear hx e
            by_cases hw : wide = 105
            · subst hw
              go_wp2_with fail
              refine bodyPost_ret (res_rng2 rfl _ _ g _ _ _ (0, 0) rfl (rng_three HG.out _ _ _)) rfl ⟨by rw [HQ2.out]; rfl, ?_⟩
              exact HKA.out.fresh (Kept.three (Kept.refl (fun q => q = g) _) rfl _ _ _) (fun q hq (e : q = g) => by have := HGS.out; omega)
            · have bw : (wide == 105) = false := by rw [beq_eq_false_iff_ne]; exact hw
              have hins : Hid (Rw.ins wide (p : Int) (j : Int) = ((p : Int), (j : Int) + 1)) := by show _ = _; unfold Rw.ins; rw [if_neg hw]
              clear hw
              go_wp2_with fail
              refine bodyPost_ret (res_rng2 rfl _ _ g _ _ _ (0, 0) rfl (rng_three HG.out _ _ _)) rfl ⟨by rw [HQ2.out]; unfold qR; rw [Option.map_some, hins.out]; rfl, ?_⟩
              exact HKA.out.fresh (Kept.three (Kept.refl (fun q => q = g) _) rfl _ _ _) (fun q hq (e : q = g) => by have := HGS.out; omega)
          · have HQ2 := Lib.hid (show Rw.quo t k h f' (j + 1) none = R by rw [← HQ.out, Rw.quo_miss hlt hx hkj])
            have b4 : decide (k ≤ j) = false := decide_eq_false hkj
            have b5 : decide ((k : Int) ≤ (j : Int)) = false := decide_eq_false (by omega)
            clear hx e
            go_wp2_with fail
            go_round
            case rel => exact ⟨f', j + 1, none, by go_num, rfl, by omega, by omega, by omega, fun p hp => (by cases hp), HQ2.out⟩
            case measure => simp [intOf] <;> omega
      · have b3 : (x != 34) = true := by rw [bne_iff_ne]; exact h34
        have HQ2 := Lib.hid (show Rw.quo t k h f' (j + 1) o = R by rw [← HQ.out, Rw.quo_skip hlt (by rw [hx]; intro e; injection e with e; exact h34 e)])
        clear hx h34
        go_wp2_with fail
        go_round
        case rel => exact ⟨f', j + 1, o, by go_num, rfl, by omega, by omega, by omega, fun p hp => (by have := hpj p hp; omega), HQ2.out⟩
        case measure => simp [intOf] <;> omega
    · obtain rfl : j = h := by omega
      have HQ2 := Lib.hid (show R = none by rw [← HQ.out, Rw.quo_out (by omega)])
      obtain ⟨f0, f1, f2⟩ := rng_facts HG.out
      obtain ⟨y0, y1, y2⟩ := rng_free HG.out
      by_cases hjn : j < n
      · obtain ⟨ad, x, rfl, hx, hcx⟩ := HA.out.cell (j := j) hjn
        have h10 : x = 10 := by have := hat.out (by rw [HL.out]; exact hjn); rw [hx] at this; injection this
        subst h10
        have b1 : decide (j < n) = true := decide_eq_true hjn
        have b2 : decide ((j : Int) < (n : Int)) = true := decide_eq_true (by omega)
        have t1 : (0 : Int) ≤ (j : Int) := by omega
        have t2 : (j : Int) < (n : Int) := by omega
        clear hx
        go_wp2_with fail
        refine bodyPost_ret (res_rng2 rfl _ _ g _ _ _ (0, 0) rfl (rng_three HG.out _ _ _)) rfl ⟨by rw [HQ2.out]; rfl, ?_⟩
        exact HKA.out.fresh (Kept.three (Kept.refl (fun q => q = g) _) rfl _ _ _) (fun q hq (e : q = g) => by have := HGS.out; omega)
      · obtain rfl : j = n := by omega
        have b1 : decide (j < j) = false := decide_eq_false (by omega)
        have b2 : decide ((j : Int) < (j : Int)) = false := decide_eq_false (by omega)
        go_wp2_with fail
        refine bodyPost_ret (res_rng2 rfl _ _ g _ _ _ (0, 0) rfl (rng_three HG.out _ _ _)) rfl ⟨by rw [HQ2.out]; rfl, ?_⟩
        exact HKA.out.fresh (Kept.three (Kept.refl (fun q => q = g) _) rfl _ _ _) (fun q hq (e : q = g) => by have := HGS.out; omega)
end Go.Proofs.YtbofjefblhnkoaaGreatDoor
