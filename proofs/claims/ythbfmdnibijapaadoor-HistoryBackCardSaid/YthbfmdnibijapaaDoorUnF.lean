/-
  NODES: the search for a Seq among nodes in order.
-/
import Derived.Test.YthbfmdnibijapaaDoorUnA
import Derived.Deep.CutRange
import Derived.Deep.CutBlock
import Derived.Deep.RegionHeld3
set_option linter.unusedVariables false
namespace Go.Proofs.YthbfmdnibijapaaDoor
open Go Go.RowKit

theorem mnum_any (x m : Int) (w : World) : Calls Tryd.prog 15 #[.int .i64 x, .int .i64 m] w fun e w' => e = .returned (.bool (decide (0 ≤ x ∧ x ≤ m))) ∧ w' = w := by
  by_cases h1 : 0 ≤ x
  · have b1 : decide (0 ≤ x) = true := by simp; omega
    by_cases h2 : x ≤ m
    · have b2 : decide (x ≤ m) = true := by simp; omega
      rw [decide_eq_true (show 0 ≤ x ∧ x ≤ m from ⟨h1, h2⟩)]
      clear h1 h2
      go_enter Tryd.func15, Tryd.ntmps15
      go_wp2
      go_ret
      exact ⟨rfl, rfl⟩
    · have b2 : decide (x ≤ m) = false := by simp; omega
      rw [decide_eq_false (show ¬ (0 ≤ x ∧ x ≤ m) by omega)]
      clear h1 h2
      go_enter Tryd.func15, Tryd.ntmps15
      go_wp2
      go_ret
      exact ⟨rfl, rfl⟩
  · have b1 : decide (0 ≤ x) = false := by simp; omega
    rw [decide_eq_false (show ¬ (0 ≤ x ∧ x ≤ m) by omega)]
    clear h1
    go_enter Tryd.func15, Tryd.ntmps15
    go_wp2
    go_ret
    exact ⟨rfl, rfl⟩
def cmpv (x z : Int) : Int := if x < z then -1 else if z < x then 1 else 0
theorem cnan_any (x : Int) (w : World) : Calls Tryd.prog 85 #[.int .i64 x] w fun e w' => e = .returned (.bool false) ∧ w' = w := by
  have b : (x != x) = false := by simp
  go_enter Tryd.func85, Tryd.ntmps85
  go_wp2
  go_ret
  exact ⟨rfl, rfl⟩
theorem compare_any (x z : Int) (w : World) : Calls Tryd.prog 75 #[.int .i64 x, .int .i64 z] w fun e w' => e = .returned (.int .i64 (cmpv x z)) ∧ w' = w := by
  by_cases h1 : x < z
  · have hv : Hid (cmpv x z = -1) := by show _ = _; unfold cmpv; rw [if_pos h1]
    have b1 : decide (x < z) = true := decide_eq_true h1
    clear h1
    go_enter Tryd.func75, Tryd.ntmps75
    go_wp2_with (go_at_call 85; refine (cnan_any _ _).mono ?_; rintro e w' ⟨rfl, rfl⟩)
    go_ret
    rw [hv.out]
    exact ⟨rfl, rfl⟩
  · by_cases h2 : z < x
    · have hv : Hid (cmpv x z = 1) := by show _ = _; unfold cmpv; rw [if_neg h1, if_pos h2]
      have b1 : decide (x < z) = false := decide_eq_false h1
      have b2 : decide (z < x) = true := decide_eq_true h2
      clear h1 h2
      go_enter Tryd.func75, Tryd.ntmps75
      go_wp2_with (go_at_call 85; refine (cnan_any _ _).mono ?_; rintro e w' ⟨rfl, rfl⟩)
      go_ret
      rw [hv.out]
      exact ⟨rfl, rfl⟩
    · have hv : Hid (cmpv x z = 0) := by show _ = _; unfold cmpv; rw [if_neg h1, if_neg h2]
      have b1 : decide (x < z) = false := decide_eq_false h1
      have b2 : decide (z < x) = false := decide_eq_false h2
      clear h1 h2
      go_enter Tryd.func75, Tryd.ntmps75
      go_wp2_with (go_at_call 85; refine (cnan_any _ _).mono ?_; rintro e w' ⟨rfl, rfl⟩)
      go_ret
      rw [hv.out]
      exact ⟨rfl, rfl⟩
theorem nclo_any (e : NodeS) (z : Int) (w : World) : Calls Tryd.prog 74 #[nodeV e, .int .i64 z] w fun e' w' => e' = .returned (.int .i64 (cmpv e.sq z)) ∧ Kept (fun _ => False) w w' := by
  have hK0 : Hid (Kept (fun _ => False) w (w.alloc (nodeO e))) := (Kept.refl _ w).alloc _
  go_enter Tryd.func74, Tryd.ntmps74
  go_wp2_with (go_at_call 75; refine (compare_any _ _ _).mono ?_; rintro e' w' ⟨rfl, rfl⟩)
  go_ret
  exact ⟨rfl, hK0.out⟩
/-- Nodes in order. -/
def Srt (L : List NodeS) : Prop := ∀ (i j : Nat) (a b : NodeS), L[i]? = some a → L[j]? = some b → i < j → a.sq < b.sq
/-- The place of a Seq, or -1. -/
def idx (L : List NodeS) (z : Int) : Int := match L.findIdx? (fun e => decide (e.sq = z)) with
  | some i => (i : Nat)
  | none => -1
set_option maxRecDepth 100000 in
set_option maxHeartbeats 1000000 in
theorem nbsf_any (A : Option Addr) (n c : Nat) (L : List NodeS) (z : Int) (w : World) (hA : Ng w A n L) (hn : n ≤ 100000) (ho : Srt L) :
    Calls Tryd.prog 73 #[.slice A n c, .int .i64 z, .func (.func 74) #[] #[]] w fun e w' => (∃ (m : Nat) (B : Bool), m ≤ n ∧ (∀ (j : Nat) (a : NodeS), L[j]? = some a → (j < m ↔ a.sq < z)) ∧ e = .returned (.tuple #[.int .i64 m, .bool B]) ∧ (B = true ↔ ∃ y : NodeS, L[m]? = some y ∧ y.sq = z)) ∧ Kept (fun _ => False) w w' := by
  have HA := Lib.hid hA
  have hp := ho
  have HP := Lib.hid hp
  clear hA hp ho
  go_enter Tryd.func73, Tryd.ntmps73
  go_wp2_with fail
  go_loopw [9, 10] (fun v u wr => ∃ I J : Nat, v = .int .i64 I ∧ u = .int .i64 J ∧ I ≤ J ∧ J ≤ n ∧ (∀ (j : Nat) (a : NodeS), L[j]? = some a → j < I → a.sq < z) ∧ (∀ (j : Nat) (a : NodeS), L[j]? = some a → J ≤ j → z ≤ a.sq) ∧ Kept (fun _ => False) w wr) (fun v u _ => (intOf u - intOf v).toNat)
  case atStart =>
    refine ⟨0, n, rfl, rfl, Nat.zero_le _, Nat.le_refl _, ?_, ?_, Kept.refl _ _⟩
    · intro j a _ h
      omega
    · intro j a h1 h2
      rw [List.getElem?_eq_none (by rw [HA.out.len]; exact h2)] at h1
      cases h1
  case round =>
    obtain ⟨I, J, rfl, rfl, hIJ, hJ, h1, h2, hkept⟩ := hrel
    have H1 := Lib.hid h1
    have H2 := Lib.hid h2
    have HK := Lib.hid hkept
    clear h1 h2 hkept
    by_cases hlt : I < J
    · obtain ⟨q, hq⟩ : ∃ q, (I + J) / 2 = q := ⟨_, rfl⟩
      have hq1 : I ≤ q ∧ q < J := by omega
      have hq2 : ((I : Int) + (J : Int)) / 2 = (q : Int) := by omega
      obtain ⟨ad, e0, rfl, hr, h4⟩ := (HA.out.kept HK.out (fun _ _ => id)).at_ (show q < n by omega)
      obtain ⟨x, y1, y2, y3⟩ := e0
      have f0 := h4.c0
      have f1 := h4.c1
      have f2 := h4.c2
      have f3 := h4.c3
      clear h4
      simp only at f0 f1 f2 f3
      have HR := Lib.hid hr
      have HQ := Lib.hid hq
      clear hr hq
      have cC := fun W => nclo_any ⟨x, y1, y2, y3⟩ z W
      by_cases hyx : x < z
      · rw [show cmpv x z = -1 by unfold cmpv; rw [if_pos hyx]] at cC
        go_wp2_with (go_at_call 74; refine (cC _).mono ?_; rintro e w' ⟨rfl, hkc⟩; have HKC := Lib.hid (HK.out.trans hkc); clear hkc)
        go_roundw
        case rel =>
          refine ⟨q + 1, J, by go_num, rfl, by omega, hJ, fun j a h3 h4 => ?_, H2.out, HKC.out⟩
          by_cases hj : j = q
          · subst hj
            rw [HR.out] at h3
            injection h3 with h3
            subst h3
            exact hyx
          · have h := HP.out j q a _ h3 HR.out (by omega); have h : a.sq < x := h; omega
        case measure => simp [intOf]; omega
      · have hc : (cmpv x z = 1 ∨ cmpv x z = 0) := by
          unfold cmpv
          rw [if_neg hyx]
          split
          · exact .inl rfl
          · exact .inr rfl
        rcases hc with hc | hc
        all_goals
          rw [hc] at cC
          go_wp2_with (go_at_call 74; refine (cC _).mono ?_; rintro e w' ⟨rfl, hkc⟩; have HKC := Lib.hid (HK.out.trans hkc); clear hkc)
          go_roundw
          case rel =>
            refine ⟨I, q, rfl, rfl, by omega, by omega, H1.out, fun j a h3 h4 => ?_, HKC.out⟩
            by_cases hj : j = q
            · subst hj
              rw [HR.out] at h3
              injection h3 with h3
              subst h3
              show z ≤ x
              omega
            · have h := HP.out q j _ a HR.out h3 (by omega); have h : x < a.sq := h; omega
          case measure => simp [intOf]; omega
    · obtain rfl : I = J := by omega
      have HF : Hid (∀ (j : Nat) (a : NodeS), L[j]? = some a → (j < I ↔ a.sq < z)) := by
        show ∀ (j : Nat) (a : NodeS), L[j]? = some a → (j < I ↔ a.sq < z)
        intro j a h
        have h1 := H1.out j a h
        have h2 := H2.out j a h
        omega
      by_cases hIn : I < n
      · obtain ⟨ad, e0, rfl, hr, h4⟩ := (HA.out.kept HK.out (fun _ _ => id)).at_ hIn
        obtain ⟨x, y1, y2, y3⟩ := e0
        have f0 := h4.c0
        have f1 := h4.c1
        have f2 := h4.c2
        have f3 := h4.c3
        clear h4
        simp only at f0 f1 f2 f3
        have HR := Lib.hid hr
        clear hr
        have b1 : decide (I < n) = true := by simp; omega
        have b2 : decide ((I : Int) < (n : Int)) = true := by simp; omega
        have cC := fun W => nclo_any ⟨x, y1, y2, y3⟩ z W
        by_cases hyx : x = z
        · subst hyx
          rw [show cmpv x x = 0 by unfold cmpv; rw [if_neg (by omega), if_neg (by omega)]] at cC
          go_wp2_with (go_at_call 74; refine (cC _).mono ?_; rintro e w' ⟨rfl, hkc⟩; have HKC := Lib.hid (HK.out.trans hkc); clear hkc)
          refine bodyPost_ret (v := .tuple #[.int .i64 (I : Nat), .bool true]) (by simp [results, Tryd.results73, go_sem]) rfl ⟨⟨I, true, hJ, HF.out, rfl, fun _ => ⟨_, HR.out, rfl⟩, fun _ => rfl⟩, HKC.out⟩
        · have hc : (cmpv x z = 1 ∨ cmpv x z = -1) := by
            unfold cmpv
            split
            · exact .inr rfl
            · rw [if_pos (by omega)]; exact .inl rfl
          have HNO : Hid (¬ ∃ y : NodeS, L[I]? = some y ∧ y.sq = z) := by
            show ¬ _
            rintro ⟨y', e, e2⟩
            rw [HR.out] at e
            injection e with e
            subst e
            exact hyx e2
          clear hyx
          rcases hc with hc | hc
          all_goals
            rw [hc] at cC
            go_wp2_with (go_at_call 74; refine (cC _).mono ?_; rintro e w' ⟨rfl, hkc⟩; have HKC := Lib.hid (HK.out.trans hkc); clear hkc)
            refine bodyPost_ret (v := .tuple #[.int .i64 (I : Nat), .bool false]) (by simp [results, Tryd.results73, go_sem]) rfl ⟨⟨I, false, hJ, HF.out, rfl, fun h => by simp at h, fun h => absurd h HNO.out⟩, HKC.out⟩
      · have b1 : decide (I < n) = false := by simp; omega
        have b2 : decide ((I : Int) < (n : Int)) = false := by simp; omega
        have HNO : Hid (¬ ∃ y : NodeS, L[I]? = some y ∧ y.sq = z) := by
          show ¬ _
          rintro ⟨y', e, _⟩
          rw [List.getElem?_eq_none (by rw [HA.out.len]; omega)] at e
          cases e
        go_wp2_with fail
        refine bodyPost_ret (v := .tuple #[.int .i64 (I : Nat), .bool false]) (by simp [results, Tryd.results73, go_sem]) rfl ⟨⟨I, false, hJ, HF.out, rfl, fun h => by simp at h, fun h => absurd h HNO.out⟩, HK.out⟩
theorem idx_hit {L : List NodeS} (ho : Srt L) {m : Nat} {y : NodeS} {z : Int} (h : L[m]? = some y) (hz : y.sq = z) : idx L z = (m : Nat) := by
  unfold idx
  have e : L.findIdx? (fun e => decide (e.sq = z)) = some m := by
    rw [List.findIdx?_eq_some_iff_getElem]
    obtain ⟨hl, he⟩ := List.getElem?_eq_some_iff.1 h
    refine ⟨hl, by rw [he]; simpa using hz, fun j hj => ?_⟩
    have h2 := ho j m _ y (List.getElem?_eq_getElem (Nat.lt_trans hj hl)) h hj
    simp
    omega
  rw [e]
theorem idx_miss {L : List NodeS} {z : Int} (h : ∀ e ∈ L, e.sq ≠ z) : idx L z = -1 := by
  unfold idx
  have e : L.findIdx? (fun e => decide (e.sq = z)) = none := by
    rw [List.findIdx?_eq_none_iff]
    intro x hx
    simpa using h x hx
  rw [e]
set_option maxHeartbeats 1000000 in
theorem nfind_any (A : Option Addr) (n c : Nat) (L : List NodeS) (z : Int) (w : World) (hA : Ng w A n L) (hn : n ≤ 100000) (ho : Srt L) :
    Calls Tryd.prog 62 #[.slice A n c, .int .i64 z] w fun e w' => e = .returned (.int .i64 (idx L z)) ∧ Kept (fun _ => False) w w' := by
  have cB := nbsf_any A n c L z w hA hn ho
  have HO := Lib.hid ho
  clear hA ho
  go_enter Tryd.func62, Tryd.ntmps62
  go_upto_region 2 with (go_at_call 73; refine cB.mono ?_; clear cB; rintro e w' ⟨⟨m, B, hm, hj, rfl, hB⟩, hk⟩; have HJ := Lib.hid hj; have HB := Lib.hid hB; have HK := Lib.hid hk; clear hj hB hk)
  cases B with
  | true =>
    have HI : Hid (idx L z = (m : Nat)) := by
      obtain ⟨y, h1, h2⟩ := HB.out.1 rfl
      exact idx_hit HO.out h1 h2
    go_wp2
    go_ret
    exact ⟨by rw [HI.out]; rfl, HK.out⟩
  | false =>
    have HI : Hid (idx L z = -1) := by
      refine idx_miss (fun e he hz => ?_)
      obtain ⟨j, hj, rfl⟩ := List.getElem_of_mem he
      have h1 := HJ.out j _ (List.getElem?_eq_getElem hj)
      have hjm : j = m := by
        by_cases hjm : j = m
        · exact hjm
        · have hml : m < L.length := by omega
          have h2 := HJ.out m _ (List.getElem?_eq_getElem hml)
          have h3 := HO.out m j _ _ (List.getElem?_eq_getElem hml) (List.getElem?_eq_getElem hj) (by omega)
          omega
      subst hjm
      have := HB.out.2 ⟨_, List.getElem?_eq_getElem hj, hz⟩
      cases this
    go_wp2
    go_ret
    exact ⟨by rw [HI.out]; rfl, HK.out⟩
end Go.Proofs.YthbfmdnibijapaaDoor
