/-
  MARKS: slices.BinarySearchFunc over marks in order, and marks.Get.
-/
import Derived.Test.YtknoiehglfpepaaDoorMkH
set_option linter.unusedVariables false
namespace Go.Proofs.YtknoiehglfpepaaDoor
open Go Go.RowKit

set_option maxRecDepth 100000 in
set_option maxHeartbeats 1000000 in
theorem bsf_any (A : Option Addr) (n c : Nat) (rows : List (List Int)) (z : Int) (w : World) (hA : Rws w A n 2 rows) (hn : n ≤ 100000) (ho : Rw.mOk rows) :
    Calls Tryd.prog 30 #[.slice A n c, .int .i64 z, .func (.func 31) #[] #[]] w fun e w' => (∃ (m : Nat) (B : Bool), m ≤ n ∧ (∀ (j : Nat) (a b : Int), rows[j]? = some [a, b] → (j < m ↔ a < z)) ∧ e = .returned (.tuple #[.int .i64 m, .bool B]) ∧ (B = true ↔ ∃ y, rows[m]? = some [z, y])) ∧ Kept (fun _ => False) w w' := by
  have HA := Lib.hid hA
  have hp : ∀ (i j : Nat) (a b a' b' : Int), rows[i]? = some [a, b] → rows[j]? = some [a', b'] → i < j → a < a' := fun i j a b a' b' hi hj hij => ho.lt (fun r hr => by
    obtain ⟨i, hi, rfl⟩ := List.getElem_of_mem hr
    exact (hA.2 i _ (List.getElem?_eq_getElem hi)).1) j i a b a' b' hi hj hij
  have HP := Lib.hid hp
  clear hA hp ho
  go_enter Tryd.func30, Tryd.ntmps30
  go_wp2_with fail
  go_loopw [9, 10] (fun v u wr => ∃ I J : Nat, v = .int .i64 I ∧ u = .int .i64 J ∧ I ≤ J ∧ J ≤ n ∧ (∀ (j : Nat) (a b : Int), rows[j]? = some [a, b] → j < I → a < z) ∧ (∀ (j : Nat) (a b : Int), rows[j]? = some [a, b] → J ≤ j → z ≤ a) ∧ Kept (fun _ => False) w wr) (fun v u _ => (intOf u - intOf v).toNat)
  case atStart =>
    refine ⟨0, n, rfl, rfl, Nat.zero_le _, Nat.le_refl _, ?_, ?_, Kept.refl _ _⟩
    · intro j a b _ h
      omega
    · intro j a b h1 h2
      rw [List.getElem?_eq_none (by rw [HA.out.1]; exact h2)] at h1
      cases h1
  case round =>
    obtain ⟨I, J, rfl, rfl, hIJ, hJ, h1, h2, hkept⟩ := hrel
    have H1 := Lib.hid h1
    have H2 := Lib.hid h2
    have HK := Lib.hid hkept
    clear h1 h2 hkept
    by_cases hlt : I < J
    · obtain ⟨q, hq⟩ : ∃ q, (I + J) / 2 = q := ⟨_, rfl⟩
      have hq1 : I ≤ q ∧ q < J := by omega
      have hq2 : ((I : Int) + (J : Int)) / 2 = (q : Int) := by omega
      obtain ⟨ad, x, y, rfl, hr, f0, f1⟩ := (HA.out.kept HK.out (fun _ _ => id)).two (show q < n by omega)
      have HR := Lib.hid hr
      have HQ := Lib.hid hq
      clear hr hq
      have cC := fun W => clo_any x y z W
      by_cases hyx : x < z
      · rw [show cmpv x z = -1 by unfold cmpv; rw [if_pos hyx]] at cC
        go_wp2_with (go_at_call 31; refine (cC _).mono ?_; rintro e w' ⟨rfl, hkc⟩; have HKC := Lib.hid (HK.out.trans hkc); clear hkc)
        go_roundw
        case rel =>
          refine ⟨q + 1, J, by go_num, rfl, by omega, hJ, fun j a b h3 h4 => ?_, H2.out, HKC.out⟩
          by_cases hj : j = q
          · subst hj
            rw [HR.out] at h3
            injection h3 with h3
            injection h3 with h3 _
            omega
          · have := HP.out j q a b x y h3 HR.out (by omega); omega
        case measure => simp [intOf]; omega
      · have hc : (cmpv x z = 1 ∨ cmpv x z = 0) := by
          unfold cmpv
          rw [if_neg hyx]
          split
          · exact .inl rfl
          · exact .inr rfl
        rcases hc with hc | hc
        all_goals
          rw [hc] at cC
          go_wp2_with (go_at_call 31; refine (cC _).mono ?_; rintro e w' ⟨rfl, hkc⟩; have HKC := Lib.hid (HK.out.trans hkc); clear hkc)
          go_roundw
          case rel =>
            refine ⟨I, q, rfl, rfl, by omega, by omega, H1.out, fun j a b h3 h4 => ?_, HKC.out⟩
            by_cases hj : j = q
            · subst hj
              rw [HR.out] at h3
              injection h3 with h3
              injection h3 with h3 _
              omega
            · have := HP.out q j x y a b HR.out h3 (by omega); omega
          case measure => simp [intOf]; omega
    · obtain rfl : I = J := by omega
      have HF : Hid (∀ (j : Nat) (a b : Int), rows[j]? = some [a, b] → (j < I ↔ a < z)) := by
        show ∀ (j : Nat) (a b : Int), rows[j]? = some [a, b] → (j < I ↔ a < z)
        intro j a b h
        have h1 := H1.out j a b h
        have h2 := H2.out j a b h
        omega
      by_cases hIn : I < n
      · obtain ⟨ad, x, y, rfl, hr, f0, f1⟩ := (HA.out.kept HK.out (fun _ _ => id)).two hIn
        have HR := Lib.hid hr
        clear hr
        have b1 : decide (I < n) = true := by simp; omega
        have b2 : decide ((I : Int) < (n : Int)) = true := by simp; omega
        have cC := fun W => clo_any x y z W
        by_cases hyx : x = z
        · subst hyx
          rw [show cmpv x x = 0 by unfold cmpv; rw [if_neg (by omega), if_neg (by omega)]] at cC
          go_wp2_with (go_at_call 31; refine (cC _).mono ?_; rintro e w' ⟨rfl, hkc⟩; have HKC := Lib.hid (HK.out.trans hkc); clear hkc)
          refine bodyPost_ret (v := .tuple #[.int .i64 (I : Nat), .bool true]) (by simp [results, Tryd.results30, go_sem]) rfl ⟨⟨I, true, hJ, HF.out, rfl, fun _ => ⟨y, HR.out⟩, fun _ => rfl⟩, HKC.out⟩
        · have hc : (cmpv x z = 1 ∨ cmpv x z = -1) := by
            unfold cmpv
            split
            · exact .inr rfl
            · rw [if_pos (by omega)]; exact .inl rfl
          have HNO : Hid (¬ ∃ y, rows[I]? = some [z, y]) := by
            show ¬ _
            rintro ⟨y', e⟩
            rw [HR.out] at e
            injection e with e
            injection e with e _
            exact hyx e
          clear hyx
          rcases hc with hc | hc
          all_goals
            rw [hc] at cC
            go_wp2_with (go_at_call 31; refine (cC _).mono ?_; rintro e w' ⟨rfl, hkc⟩; have HKC := Lib.hid (HK.out.trans hkc); clear hkc)
            refine bodyPost_ret (v := .tuple #[.int .i64 (I : Nat), .bool false]) (by simp [results, Tryd.results30, go_sem]) rfl ⟨⟨I, false, hJ, HF.out, rfl, fun h => by simp at h, fun h => absurd h HNO.out⟩, HKC.out⟩
      · have b1 : decide (I < n) = false := by simp; omega
        have b2 : decide ((I : Int) < (n : Int)) = false := by simp; omega
        have HNO : Hid (¬ ∃ y, rows[I]? = some [z, y]) := by
          show ¬ _
          rintro ⟨y', e⟩
          rw [List.getElem?_eq_none (by rw [HA.out.1]; omega)] at e
          cases e
        go_wp2_with fail
        refine bodyPost_ret (v := .tuple #[.int .i64 (I : Nat), .bool false]) (by simp [results, Tryd.results30, go_sem]) rfl ⟨⟨I, false, hJ, HF.out, rfl, fun h => by simp at h, fun h => absurd h HNO.out⟩, HK.out⟩
theorem mfind_any (A : Option Addr) (n c : Nat) (rows : List (List Int)) (z : Int) (w : World) (hA : Rws w A n 2 rows) (hn : n ≤ 100000) (ho : Rw.mOk rows) :
    Calls Tryd.prog 25 #[.slice A n c, .int .i64 z] w fun e w' => (∃ (m : Nat) (B : Bool), m ≤ n ∧ (∀ (j : Nat) (a b : Int), rows[j]? = some [a, b] → (j < m ↔ a < z)) ∧ e = .returned (.tuple #[.int .i64 m, .bool B]) ∧ (B = true ↔ ∃ y, rows[m]? = some [z, y])) ∧ Kept (fun _ => False) w w' := by
  have cB := bsf_any A n c rows z w hA hn ho
  clear hA ho
  go_enter Tryd.func25, Tryd.ntmps25
  go_wp2_with (go_at_call 30; refine cB.mono ?_; rintro e w' ⟨⟨m, B, hm, hj, rfl, hB⟩, hk⟩; have HJ := Lib.hid hj; have HB := Lib.hid hB; clear hj hB)
  refine bodyPost_ret (v := .tuple #[.int .i64 (m : Nat), .bool B]) (by simp [results, Tryd.results25, go_sem]) rfl ⟨⟨m, B, hm, HJ.out, rfl, HB.out⟩, hk⟩
/-- What the program tells of the mark of a name. -/
def getT (o : Option Int) : Value := match o with
  | none => .tuple #[.int .i64 0, .int .i64 3]
  | some y => .tuple #[.int .i64 y, .int .i64 0]
theorem find_at {rows : List (List Int)} {z : Int} {m i : Nat} {y : Int} (hj : ∀ (j : Nat) (a b : Int), rows[j]? = some [a, b] → (j < m ↔ a < z)) (hp : ∀ (i j : Nat) (a b a' b' : Int), rows[i]? = some [a, b] → rows[j]? = some [a', b'] → i < j → a < a') (hl : ∀ r ∈ rows, r.length = 2) (hi : rows[i]? = some [z, y]) : m = i := by
  have h1 := hj i z y hi
  have hil : i < rows.length := by
    by_cases hil : i < rows.length
    · exact hil
    · rw [List.getElem?_eq_none (by omega)] at hi; cases hi
  by_cases hmi : m = i
  · exact hmi
  · have hml : m < rows.length := by omega
    have hm : rows[m]? = some rows[m] := List.getElem?_eq_getElem hml
    have hm2 := hl _ (List.mem_of_getElem? hm)
    match hr : rows[m], hm2 with
    | [u, v], _ =>
      rw [hr] at hm
      have h2 := hj m u v hm
      have h3 := hp m i u v z y hm hi (by omega)
      omega
theorem get_none {rows : List (List Int)} {z : Int} (hp : ∀ (i j : Nat) (a b a' b' : Int), rows[i]? = some [a, b] → rows[j]? = some [a', b'] → i < j → a < a') (h : Rw.mget rows z = none) (i : Nat) (y : Int) : rows[i]? ≠ some [z, y] := by
  intro hi
  have := Rw.mget_hit hi (fun j y' hj e => by have := hp j i z y' z y e hi hj; omega)
  rw [h] at this
  cases this
set_option maxRecDepth 100000 in
set_option maxHeartbeats 1000000 in
theorem mget_yes (A : Option Addr) (n c : Nat) (rows : List (List Int)) (z : Int) (w : World) (hA : Rws w A n 2 rows) (hn : n ≤ 100000) (ho : Rw.mOk rows) :
    Calls Tryd.prog 15 #[.slice A n c, .int .i64 z] w fun e w' => e = .returned (getT (Rw.mget rows z)) ∧ Kept (fun _ => False) w w' := by
  have hl : ∀ r ∈ rows, r.length = 2 := fun r hr => by
    obtain ⟨i, hi, rfl⟩ := List.getElem_of_mem hr
    exact (hA.2 i _ (List.getElem?_eq_getElem hi)).1
  have hp : ∀ (i j : Nat) (a b a' b' : Int), rows[i]? = some [a, b] → rows[j]? = some [a', b'] → i < j → a < a' := fun i j a b a' b' hi hj hij => ho.lt hl j i a b a' b' hi hj hij
  have HL := Lib.hid hl
  have HP := Lib.hid hp
  have HA := Lib.hid hA
  have HO := Lib.hid ho
  clear hl hp
  cases hg : Rw.mget rows z with
  | none =>
    have cC := pcheck_any A n c rows w hA hn
    have cF := fun W (hk : Kept (fun _ => False) w W) => mfind_any A n c rows z W (hA.kept hk (fun _ _ => id)) hn ho
    have HG := Lib.hid hg
    clear hA ho hg
    go_enter Tryd.func15, Tryd.ntmps15
    go_wp2_with (first
      | (go_at_call 9; refine cC.mono ?_; rintro e w1 ⟨⟨E, rfl, _, hE⟩, hk1⟩; obtain rfl : E = 0 := hE.2 HO.out; have HK1 := Lib.hid hk1; clear hk1 hE)
      | (go_at_call 25; refine (cF _ HK1.out).mono ?_; rintro e w2 ⟨⟨m, B, hm, hj, rfl, hB⟩, hk2⟩; obtain rfl : B = false := Bool.eq_false_iff.2 (fun h => (hB.1 h).elim fun y' h' => get_none HP.out HG.out m y' h'); have HK2 := Lib.hid (HK1.out.trans hk2); clear hj hB hk2))
    refine bodyPost_ret (v := .tuple #[.int .i64 0, .int .i64 3]) (by simp [results, Tryd.results15, go_sem]) rfl ⟨rfl, HK2.out⟩
  | some y =>
    obtain ⟨i, hi⟩ := Rw.mget_get hg
    have hin : i < n := by
      rw [← hA.1]
      by_cases hil : i < rows.length
      · exact hil
      · rw [List.getElem?_eq_none (by omega)] at hi; cases hi
    obtain ⟨ad, x', y', rfl, hr, f0, f1⟩ := hA.two hin
    rw [hi] at hr
    injection hr with hr
    injection hr with e1 e2
    injection e2 with e2 _
    subst e1
    subst e2
    have HF1 := Lib.hid f1
    have cC := pcheck_any (some ad) n c rows w hA hn
    have cF := fun W (hk : Kept (fun _ => False) w W) => mfind_any (some ad) n c rows z W (hA.kept hk (fun _ _ => id)) hn ho
    have HI := Lib.hid hi
    have t1 : (0 : Int) ≤ (i : Int) := by omega
    have t2 : (i : Int) < (n : Int) := by omega
    clear hA ho hg hi f0 f1
    go_enter Tryd.func15, Tryd.ntmps15
    go_wp2_with (first
      | (go_at_call 9; refine cC.mono ?_; rintro e w1 ⟨⟨E, rfl, _, hE⟩, hk1⟩; obtain rfl : E = 0 := hE.2 HO.out; have HK1 := Lib.hid hk1; clear hk1 hE)
      | (go_at_call 25; refine (cF _ HK1.out).mono ?_; rintro e w2 ⟨⟨m, B, hm, hj, rfl, hB⟩, hk2⟩; obtain rfl : m = i := find_at hj HP.out HL.out HI.out; obtain rfl : B = true := hB.2 ⟨_, HI.out⟩; have HK2 := Lib.hid (HK1.out.trans hk2); have f2 := cell_kept HK2.out HF1.out id; clear hj hB hk2))
    refine bodyPost_ret (v := .tuple #[.int .i64 y, .int .i64 0]) (by simp [results, Tryd.results15, go_sem]) rfl ⟨rfl, HK2.out⟩
end Go.Proofs.YtknoiehglfpepaaDoor
