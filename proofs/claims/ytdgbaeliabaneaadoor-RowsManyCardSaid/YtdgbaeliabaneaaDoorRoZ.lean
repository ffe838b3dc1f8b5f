/-
  A TREE OF ROWS: Splice.
-/
import Derived.Test.YtdgbaeliabaneaaDoorRoY
set_option linter.unusedVariables false
namespace Go.Proofs.YtdgbaeliabaneaaDoor
open Go Go.RowKit

theorem splitL (v : Value) (L : List ByteArray) (i : Nat) (w : World) (h : TreeOf w v L) (hO : OkL L) (hi : i ≤ L.length) :
    Calls Tryd.prog 32 #[v, .int .i64 i] w fun e w' => (∃ v1 v2, e = .returned (.tuple #[v1, v2]) ∧ TreeOf w' v1 (L.take i) ∧ TreeOf w' v2 (L.drop i)) ∧ Kept (fun _ => False) w w' := by
  obtain ⟨t, h1, rfl, h2⟩ := h
  have hz : i ≤ t.size := by rw [t.size_rows]; exact hi
  obtain ⟨s1, s2⟩ := Tr.split_rows t i hz
  obtain ⟨a1, a2⟩ := Tr.split_ok t i h2
  refine (split_any X0 t v i w h1 (fun q _ h => h) (t.ok_rows.2 hO) hz).mono ?_
  rintro e w' ⟨⟨v1, v2, rfl, hv1, hv2⟩, hk⟩
  exact ⟨⟨v1, v2, rfl, ⟨_, hv1, s1, a1⟩, ⟨_, hv2, s2, a2⟩⟩, hk⟩
theorem buildL (A : Option Addr) (n c : Nat) (L : List ByteArray) (w : World) (h : Strs w A n L) (hc : n ≤ c) (hO : OkL L) :
    Calls Tryd.prog 27 #[.slice A n c] w fun e w' => Got w w' L e :=
  (build_any n L A n c w (Nat.le_refl _) h hc hO).mono (by
    rintro e w' ⟨⟨v, t, rfl, hv, hr, ha, _⟩, hk⟩
    exact ⟨⟨v, rfl, t, hv, hr, ha⟩, hk⟩)
/-- Rows with n of them from the i-th on replaced. -/
def spl (L : List ByteArray) (i n : Nat) (l : List ByteArray) : List ByteArray := L.take i ++ l ++ L.drop (i + n)
theorem spl_len {L l : List ByteArray} {i n : Nat} (h : i + n ≤ L.length) : (spl L i n l).length = L.length - n + l.length := by
  unfold spl
  rw [List.length_append, List.length_append, List.length_take, List.length_drop]
  omega
theorem byL_split (L : List ByteArray) (k : Nat) : byL L = byL (L.take k) + byL (L.drop k) := by
  rw [← byL_app, List.take_append_drop]
theorem byL_le_take (L : List ByteArray) {i k : Nat} (h : i ≤ k) : byL (L.take i) ≤ byL (L.take k) := by
  have := byL_take_le (L.take k) i
  rwa [List.take_take, Nat.min_eq_left h] at this
theorem spl_by {L l : List ByteArray} {i n : Nat} : byL (spl L i n l) = byL (L.take i) + byL l + byL (L.drop (i + n)) := by
  unfold spl
  rw [byL_app, byL_app]
set_option maxRecDepth 100000 in
set_option maxHeartbeats 2000000 in
theorem splice_none (T : Nat) (L : List ByteArray) (i n : Int) (lv : Value) (w : World) (h : Tree w T L) (hL : L.length ≤ 100000) (hi : i < 0 ∨ n < 0 ∨ (L.length : Int) < i ∨ (L.length : Int) - i < n) :
    Calls Tryd.prog 13 #[.pointer (some ⟨T, 0, none⟩), .int .i64 i, .int .i64 n, lv] w fun e w' => e = .returned (.int .i64 3) ∧ Kept (fun _ => False) w w' := by
  have HC : Hid (∀ W, Kept (fun _ => False) w W → Calls Tryd.prog 21 #[.pointer (some ⟨T, 0, none⟩)] W fun e w' => e = .returned (.int .i64 (L.length : Nat)) ∧ Kept (fun _ => False) W w') := fun W hk => len_any T L W (h.kept hk)
  have cL := HC.out w (Kept.refl _ w)
  clear h
  generalize L.length = N at *
  by_cases h0 : i < 0
  · have d1 : decide (i < 0) = true := decide_eq_true h0
    clear hi cL
    go_enter Tryd.func13, Tryd.ntmps13
    go_wp2
    go_ret
    exact ⟨rfl, Kept.refl _ w⟩
  have d1 : decide (i < 0) = false := decide_eq_false h0
  by_cases h1 : n < 0
  · have d2 : decide (n < 0) = true := decide_eq_true h1
    clear hi cL
    go_enter Tryd.func13, Tryd.ntmps13
    go_wp2
    go_ret
    exact ⟨rfl, Kept.refl _ w⟩
  have d2 : decide (n < 0) = false := decide_eq_false h1
  by_cases h2 : (N : Int) < i
  · have d3 : decide ((N : Int) < i) = true := decide_eq_true h2
    clear hi
    go_enter Tryd.func13, Tryd.ntmps13
    go_wp2_with (go_at_call 21; refine cL.mono ?_; rintro e w1 ⟨rfl, hk1⟩; have HK1 := Lib.hid hk1; clear hk1 cL)
    go_ret
    exact ⟨rfl, HK1.out⟩
  have d3 : decide ((N : Int) < i) = false := decide_eq_false h2
  have h3 : (N : Int) - i < n := by omega
  have d4 : decide ((N : Int) - i < n) = true := decide_eq_true h3
  have e1 : IntKind.i64.wrap ((N : Int) - i) = (N : Int) - i := IntWalk.i64_in _ ⟨by omega, by omega⟩
  clear hi
  go_enter Tryd.func13, Tryd.ntmps13
  go_wp2_with (first
    | (go_at_call 21; refine cL.mono ?_; rintro e w1 ⟨rfl, hk1⟩; have HK1 := Lib.hid hk1; clear hk1 cL; have cM := HC.out w1 HK1.out)
    | (go_at_call 21; refine cM.mono ?_; rintro e w2 ⟨rfl, hk2⟩; have HK2 := Lib.hid (HK1.out.trans hk2); clear hk2 cM))
  go_ret
  exact ⟨rfl, HK2.out⟩
set_option maxRecDepth 100000 in
set_option maxHeartbeats 2000000 in
theorem splice_form (T : Nat) (L l : List ByteArray) (i n : Nat) (A : Option Addr) (m c : Nat) (w : World) (h : Tree w T L) (hL : L.length ≤ 100000) (hin : i + n ≤ L.length) (hS : Strs w A m l) (hm : m ≤ 1000000) (hb : byL l ≤ 1000000) (hT : Tabs w) (hno : l.all rowB = false) :
    Calls Tryd.prog 13 #[.pointer (some ⟨T, 0, none⟩), .int .i64 i, .int .i64 n, .slice A m c] w fun e w' => e = .returned (.int .i64 1) ∧ Kept (fun _ => False) w w' := by
  have HC : Hid (∀ W, Kept (fun _ => False) w W → Calls Tryd.prog 21 #[.pointer (some ⟨T, 0, none⟩)] W fun e w' => e = .returned (.int .i64 (L.length : Nat)) ∧ Kept (fun _ => False) W w') := fun W hk => len_any T L W (h.kept hk)
  have HF : Hid (∀ W, Kept (fun _ => False) w W → Calls Tryd.prog 25 #[.slice A m c] W fun e w' => e = .returned (.tuple #[.int .i64 0, .bool false]) ∧ Kept (fun _ => False) W w') := fun W hk => (formed_any A m c l W (hS.kept hk) hm hb (hT.kept hk id id)).mono (by
    rintro e w' ⟨⟨h1, _⟩ | ⟨_, rfl⟩, hk⟩
    · rw [hno] at h1; cases h1
    · exact ⟨rfl, hk⟩)
  have cL := HC.out w (Kept.refl _ w)
  clear h hS hm hb hT hno
  generalize L.length = N at *
  have d1 : decide ((i : Int) < 0) = false := decide_eq_false (by omega)
  have d2 : decide ((n : Int) < 0) = false := decide_eq_false (by omega)
  have d3 : decide ((N : Int) < (i : Int)) = false := decide_eq_false (by omega)
  have d5 : decide (N < i) = false := decide_eq_false (by omega)
  obtain ⟨k, hk⟩ : ∃ k, N - i = k := ⟨_, rfl⟩
  have e1 : IntKind.i64.wrap ((N : Int) - (i : Int)) = (k : Int) := by rw [show (N : Int) - (i : Int) = (k : Int) by omega]; exact IntWalk.i64_in _ ⟨by omega, by omega⟩
  have d4 : decide ((k : Int) < (n : Int)) = false := decide_eq_false (by omega)
  have d6 : decide (k < n) = false := decide_eq_false (by omega)
  clear hin hk
  go_enter Tryd.func13, Tryd.ntmps13
  go_wp2_with (first
    | (go_at_call 21; refine cL.mono ?_; rintro e w1 ⟨rfl, hk1⟩; have HK1 := Lib.hid hk1; clear hk1 cL; have cM := HC.out w1 HK1.out)
    | (go_at_call 21; refine cM.mono ?_; rintro e w2 ⟨rfl, hk2⟩; have HK2 := Lib.hid (HK1.out.trans hk2); clear hk2 cM; have cF := HF.out w2 HK2.out)
    | (go_at_call 25; refine cF.mono ?_; rintro e w3 ⟨rfl, hk3⟩; have HK3 := Lib.hid (HK2.out.trans hk3); clear hk3 cF))
  go_ret
  exact ⟨rfl, HK3.out⟩
set_option maxRecDepth 100000 in
set_option maxHeartbeats 8000000 in
theorem splice_full (T : Nat) (L l : List ByteArray) (i n : Nat) (A : Option Addr) (m c : Nat) (w : World) (h : Tree w T L) (hN : L.length ≤ 100000) (hin : i + n ≤ L.length) (hS : Strs w A m l) (hc : m ≤ c) (hm : m ≤ 1000000) (hb : byL l ≤ 1000000) (hT : Tabs w) (hyes : l.all rowB = true)
    (hfit : ¬ (1 ≤ (spl L i n l).length ∧ (spl L i n l).length ≤ 1100 ∧ byL (spl L i n l) + (spl L i n l).length ≤ 4001)) :
    Calls Tryd.prog 13 #[.pointer (some ⟨T, 0, none⟩), .int .i64 i, .int .i64 n, .slice A m c] w fun e w' => e = .returned (.int .i64 4) ∧ Kept (fun _ => False) w w' := by
  have hbL : byL L ≤ 10000000 := h.ok.by_
  have HC : Hid (∀ W, Kept (fun _ => False) w W → Calls Tryd.prog 21 #[.pointer (some ⟨T, 0, none⟩)] W fun e w' => e = .returned (.int .i64 (L.length : Nat)) ∧ Kept (fun _ => False) W w') := fun W hk => len_any T L W (h.kept hk)
  have HF : Hid (∀ W, Kept (fun _ => False) w W → Calls Tryd.prog 25 #[.slice A m c] W fun e w' => e = .returned (.tuple #[.int .i64 (byL l : Nat), .bool true]) ∧ Kept (fun _ => False) W w') := fun W hk => (formed_any A m c l W (hS.kept hk) hm hb (hT.kept hk id id)).mono (by
    rintro e w' ⟨⟨_, rfl⟩ | ⟨h1, _⟩, hk⟩
    · exact ⟨rfl, hk⟩
    · rw [hyes] at h1; cases h1)
  have HA1 : Hid (∀ W, Kept (fun _ => False) w W → Calls Tryd.prog 19 #[.pointer (some ⟨T, 0, none⟩), .int .i64 i] W fun e w' => e = .returned (.tuple #[.int .i64 (byL (L.take i) : Nat), .int .i64 (ruL (L.take i) : Nat), .int .i64 0]) ∧ Kept (fun _ => False) W w') := fun W hk => ahead_yes T L i W (h.kept hk) (by omega)
  have HA2 : Hid (∀ W, Kept (fun _ => False) w W → Calls Tryd.prog 19 #[.pointer (some ⟨T, 0, none⟩), .int .i64 ((i + n : Nat) : Int)] W fun e w' => e = .returned (.tuple #[.int .i64 (byL (L.take (i + n)) : Nat), .int .i64 (ruL (L.take (i + n)) : Nat), .int .i64 0]) ∧ Kept (fun _ => False) W w') := fun W hk => ahead_yes T L (i + n) W (h.kept hk) hin
  have HB : Hid (∀ W, Kept (fun _ => False) w W → Calls Tryd.prog 30 #[.pointer (some ⟨T, 0, none⟩)] W fun e w' => e = .returned (.int .i64 (byL L : Nat)) ∧ Kept (fun _ => False) W w') := fun W hk => bytes_any T L W (h.kept hk)
  have g1 := byL_le_take L (show i ≤ i + n by omega)
  have g2 := byL_split L (i + n)
  have g3 : byL (spl L i n l) = byL (L.take i) + byL l + byL (L.drop (i + n)) := spl_by
  have g4 := spl_len (l := l) hin
  have hml := hS.1
  have HG : Hid (∀ W, Calls Tryd.prog 26 #[.int .i64 ((L.length - n + m : Nat) : Int), .int .i64 ((byL L - (byL (L.take (i + n)) - byL (L.take i)) + byL l : Nat) : Int)] W fun e w' => e = .returned (.bool false) ∧ w' = W) := fun W => (fits_any _ _ W (by omega) (by omega)).mono (by
    rintro e w' ⟨⟨h1, rfl⟩ | ⟨h1, rfl⟩, hk⟩
    · exact absurd (by omega) hfit
    · exact ⟨rfl, hk⟩)
  have cL := HC.out w (Kept.refl _ w)
  obtain ⟨N, hNN⟩ : ∃ N, L.length = N := ⟨_, rfl⟩
  rw [hNN] at HC HG cL hin hN g4
  obtain ⟨lo, hlo⟩ : ∃ x, byL (L.take i) = x := ⟨_, rfl⟩
  obtain ⟨hi, hhi⟩ : ∃ x, byL (L.take (i + n)) = x := ⟨_, rfl⟩
  obtain ⟨r1, hr1⟩ : ∃ x, ruL (L.take i) = x := ⟨_, rfl⟩
  obtain ⟨r2, hr2⟩ : ∃ x, ruL (L.take (i + n)) = x := ⟨_, rfl⟩
  obtain ⟨tot, htot⟩ : ∃ x, byL L = x := ⟨_, rfl⟩
  obtain ⟨come, hcome⟩ : ∃ x, byL l = x := ⟨_, rfl⟩
  rw [hlo, hr1] at HA1
  rw [hhi, hr2] at HA2
  rw [htot] at HB
  rw [hcome] at HF
  rw [hlo, hhi, htot, hcome] at HG
  rw [hlo, hhi] at g1
  rw [htot, hhi] at g2
  have gt : tot ≤ 10000000 := by rw [← htot]; exact hbL
  have gc : come ≤ 1000000 := by rw [← hcome]; exact hb
  obtain ⟨j, hj⟩ : ∃ j, i + n = j := ⟨_, rfl⟩
  obtain ⟨k, hk⟩ : ∃ k, N - i = k := ⟨_, rfl⟩
  obtain ⟨p1, hp1⟩ : ∃ x, N - n = x := ⟨_, rfl⟩
  obtain ⟨p2, hp2⟩ : ∃ x, p1 + m = x := ⟨_, rfl⟩
  obtain ⟨p3, hp3⟩ : ∃ x, hi - lo = x := ⟨_, rfl⟩
  obtain ⟨p4, hp4⟩ : ∃ x, tot - p3 = x := ⟨_, rfl⟩
  obtain ⟨p5, hp5⟩ : ∃ x, p4 + come = x := ⟨_, rfl⟩
  rw [hp1, hp2, hp3, hp4, hp5] at HG
  rw [hj] at HA2
  have d1 : decide ((i : Int) < 0) = false := decide_eq_false (by omega)
  have d2 : decide ((n : Int) < 0) = false := decide_eq_false (by omega)
  have d3 : decide ((N : Int) < (i : Int)) = false := decide_eq_false (by omega)
  have d5 : decide (N < i) = false := decide_eq_false (by omega)
  have e1 : IntKind.i64.wrap ((N : Int) - (i : Int)) = (k : Int) := by rw [show (N : Int) - (i : Int) = (k : Int) by omega]; exact IntWalk.i64_in _ ⟨by omega, by omega⟩
  have d4 : decide ((k : Int) < (n : Int)) = false := decide_eq_false (by omega)
  have d6 : decide (k < n) = false := decide_eq_false (by omega)
  have e2 : IntKind.i64.wrap ((i : Int) + (n : Int)) = (j : Int) := by rw [show (i : Int) + (n : Int) = (j : Int) by omega]; exact IntWalk.i64_in _ ⟨by omega, by omega⟩
  have e3 : IntKind.i64.wrap ((N : Int) - (n : Int)) = (p1 : Int) := by rw [show (N : Int) - (n : Int) = (p1 : Int) by omega]; exact IntWalk.i64_in _ ⟨by omega, by omega⟩
  have e4 : IntKind.i64.wrap ((p1 : Int) + (m : Int)) = (p2 : Int) := by rw [show (p1 : Int) + (m : Int) = (p2 : Int) by omega]; exact IntWalk.i64_in _ ⟨by omega, by omega⟩
  have e5 : IntKind.i64.wrap ((hi : Int) - (lo : Int)) = (p3 : Int) := by rw [show (hi : Int) - (lo : Int) = (p3 : Int) by omega]; exact IntWalk.i64_in _ ⟨by omega, by omega⟩
  have e6 : IntKind.i64.wrap ((tot : Int) - (p3 : Int)) = (p4 : Int) := by rw [show (tot : Int) - (p3 : Int) = (p4 : Int) by omega]; exact IntWalk.i64_in _ ⟨by omega, by omega⟩
  have e7 : IntKind.i64.wrap ((p4 : Int) + (come : Int)) = (p5 : Int) := by rw [show (p4 : Int) + (come : Int) = (p5 : Int) by omega]; exact IntWalk.i64_in _ ⟨by omega, by omega⟩
  clear h hS hm hb hT hyes hfit hN hin hbL g1 g2 g3 g4 gt gc hml hj hk hp1 hp2 hp3 hp4 hp5 hNN hlo hhi hr1 hr2 htot hcome hc
  go_enter Tryd.func13, Tryd.ntmps13
  go_wp2_with (first
    | (go_at_call 21; refine cL.mono ?_; rintro e w1 ⟨rfl, hk1⟩; have HK1 := Lib.hid hk1; clear hk1 cL; have cM := HC.out w1 HK1.out)
    | (go_at_call 21; refine cM.mono ?_; rintro e w2 ⟨rfl, hk2⟩; have HK2 := Lib.hid (HK1.out.trans hk2); clear hk2 cM; have cF := HF.out w2 HK2.out)
    | (go_at_call 25; refine cF.mono ?_; rintro e w3 ⟨rfl, hk3⟩; have HK3 := Lib.hid (HK2.out.trans hk3); clear hk3 cF; have cA := HA1.out w3 HK3.out)
    | (go_at_call 19; refine cA.mono ?_; rintro e w4 ⟨rfl, hk4⟩; have HK4 := Lib.hid (HK3.out.trans hk4); clear hk4 cA; have cA2 := HA2.out w4 HK4.out)
    | (go_at_call 19; refine cA2.mono ?_; rintro e w5 ⟨rfl, hk5⟩; have HK5 := Lib.hid (HK4.out.trans hk5); clear hk5 cA2; have cN := HC.out w5 HK5.out)
    | (go_at_call 21; refine cN.mono ?_; rintro e w6 ⟨rfl, hk6⟩; have HK6 := Lib.hid (HK5.out.trans hk6); clear hk6 cN; have cB := HB.out w6 HK6.out)
    | (go_at_call 30; refine cB.mono ?_; rintro e w7 ⟨rfl, hk7⟩; have HK7 := Lib.hid (HK6.out.trans hk7); clear hk7 cB; have cG := HG.out w7)
    | (go_at_call 26; refine cG.mono ?_; rintro e w8 ⟨rfl, hw⟩; have hw2 := hw.symm; subst hw2; clear cG))
  go_ret
  exact ⟨rfl, HK7.out⟩
set_option maxRecDepth 100000 in
set_option maxHeartbeats 8000000 in
theorem splice_ok (T : Nat) (L l : List ByteArray) (i n : Nat) (A : Option Addr) (m c : Nat) (w : World) (h : Tree w T L) (hN : L.length ≤ 100000) (hin : i + n ≤ L.length) (hS : Strs w A m l) (hc : m ≤ c) (hm : m ≤ 1000000) (hb : byL l ≤ 1000000) (hT : Tabs w) (hyes : l.all rowB = true)
    (hfit : 1 ≤ (spl L i n l).length ∧ (spl L i n l).length ≤ 1100 ∧ byL (spl L i n l) + (spl L i n l).length ≤ 4001) :
    Calls Tryd.prog 13 #[.pointer (some ⟨T, 0, none⟩), .int .i64 i, .int .i64 n, .slice A m c] w fun e w' => e = .returned (.int .i64 0) ∧ Tree w' T (spl L i n l) ∧ Kept (fun q => q = T) w w' := by
  have hbL : byL L ≤ 10000000 := h.ok.by_
  have HC : Hid (∀ W, Kept (fun _ => False) w W → Calls Tryd.prog 21 #[.pointer (some ⟨T, 0, none⟩)] W fun e w' => e = .returned (.int .i64 (L.length : Nat)) ∧ Kept (fun _ => False) W w') := fun W hk => len_any T L W (h.kept hk)
  have HF : Hid (∀ W, Kept (fun _ => False) w W → Calls Tryd.prog 25 #[.slice A m c] W fun e w' => e = .returned (.tuple #[.int .i64 (byL l : Nat), .bool true]) ∧ Kept (fun _ => False) W w') := fun W hk => (formed_any A m c l W (hS.kept hk) hm hb (hT.kept hk id id)).mono (by
    rintro e w' ⟨⟨_, rfl⟩ | ⟨h1, _⟩, hk⟩
    · exact ⟨rfl, hk⟩
    · rw [hyes] at h1; cases h1)
  have HA1 : Hid (∀ W, Kept (fun _ => False) w W → Calls Tryd.prog 19 #[.pointer (some ⟨T, 0, none⟩), .int .i64 i] W fun e w' => e = .returned (.tuple #[.int .i64 (byL (L.take i) : Nat), .int .i64 (ruL (L.take i) : Nat), .int .i64 0]) ∧ Kept (fun _ => False) W w') := fun W hk => ahead_yes T L i W (h.kept hk) (by omega)
  have HA2 : Hid (∀ W, Kept (fun _ => False) w W → Calls Tryd.prog 19 #[.pointer (some ⟨T, 0, none⟩), .int .i64 ((i + n : Nat) : Int)] W fun e w' => e = .returned (.tuple #[.int .i64 (byL (L.take (i + n)) : Nat), .int .i64 (ruL (L.take (i + n)) : Nat), .int .i64 0]) ∧ Kept (fun _ => False) W w') := fun W hk => ahead_yes T L (i + n) W (h.kept hk) hin
  have HB : Hid (∀ W, Kept (fun _ => False) w W → Calls Tryd.prog 30 #[.pointer (some ⟨T, 0, none⟩)] W fun e w' => e = .returned (.int .i64 (byL L : Nat)) ∧ Kept (fun _ => False) W w') := fun W hk => bytes_any T L W (h.kept hk)
  have g1 := byL_le_take L (show i ≤ i + n by omega)
  have g2 := byL_split L (i + n)
  have g3 : byL (spl L i n l) = byL (L.take i) + byL l + byL (L.drop (i + n)) := spl_by
  have g4 := spl_len (l := l) hin
  have hml := hS.1
  have HG : Hid (∀ W, Calls Tryd.prog 26 #[.int .i64 ((L.length - n + m : Nat) : Int), .int .i64 ((byL L - (byL (L.take (i + n)) - byL (L.take i)) + byL l : Nat) : Int)] W fun e w' => e = .returned (.bool true) ∧ w' = W) := fun W => (fits_any _ _ W (by omega) (by omega)).mono (by
    rintro e w' ⟨⟨h1, rfl⟩ | ⟨h1, rfl⟩, hk⟩
    · exact ⟨rfl, hk⟩
    · exact absurd (by omega) h1)
  have hOS : OkL (spl L i n l) := OkL.of (by omega) (by omega)
  have hOL := h.ok
  obtain ⟨root, hr1, hr2⟩ := h.at_
  obtain ⟨rp, rfl⟩ := hr2.ptr
  have HTX := Lib.hid hr1
  have HS1 : Hid (∀ W, Kept (fun _ => False) w W → Calls Tryd.prog 32 #[.pointer rp, .int .i64 i] W fun e w' => (∃ v1 v2, e = .returned (.tuple #[v1, v2]) ∧ TreeOf w' v1 (L.take i) ∧ TreeOf w' v2 (L.drop i)) ∧ Kept (fun _ => False) W w') := fun W hk => splitL _ L i W (hr2.kept hk) hOL (by omega)
  have HS2 : Hid (∀ W v, TreeOf W v (L.drop i) → Calls Tryd.prog 32 #[v, .int .i64 n] W fun e w' => (∃ v1 v2, e = .returned (.tuple #[v1, v2]) ∧ TreeOf w' v1 ((L.drop i).take n) ∧ TreeOf w' v2 (L.drop (i + n))) ∧ Kept (fun _ => False) W w') := fun W v hv => by
    have c := splitL v (L.drop i) n W hv (hOL.drop i) (by rw [List.length_drop]; omega)
    rw [List.drop_drop] at c
    exact c
  have HBU : Hid (∀ W, Kept (fun _ => False) w W → Calls Tryd.prog 27 #[.slice A m c] W fun e w' => Got W w' l e) := fun W hk => buildL A m c l W (hS.kept hk) hc (hOS.left.right)
  have HL1 : Hid (∀ W va vb, TreeOf W va (L.take i) → TreeOf W vb l → Calls Tryd.prog 33 #[va, vb] W fun e w' => Got W w' (L.take i ++ l) e) := fun W va vb ha hb => link_any va vb _ _ W ha hb hOS.left
  have HL2 : Hid (∀ W va vb, TreeOf W va (L.take i ++ l) → TreeOf W vb (L.drop (i + n)) → Calls Tryd.prog 33 #[va, vb] W fun e w' => Got W w' (spl L i n l) e) := fun W va vb ha hb => link_any va vb _ _ W ha hb hOS
  have HOS := Lib.hid hOS
  clear hOS hOL hr1 hr2
  have cL := HC.out w (Kept.refl _ w)
  obtain ⟨N, hNN⟩ : ∃ N, L.length = N := ⟨_, rfl⟩
  rw [hNN] at HC HG cL hin hN g4
  obtain ⟨lo, hlo⟩ : ∃ x, byL (L.take i) = x := ⟨_, rfl⟩
  obtain ⟨hi, hhi⟩ : ∃ x, byL (L.take (i + n)) = x := ⟨_, rfl⟩
  obtain ⟨r1, hr1⟩ : ∃ x, ruL (L.take i) = x := ⟨_, rfl⟩
  obtain ⟨r2, hr2⟩ : ∃ x, ruL (L.take (i + n)) = x := ⟨_, rfl⟩
  obtain ⟨tot, htot⟩ : ∃ x, byL L = x := ⟨_, rfl⟩
  obtain ⟨come, hcome⟩ : ∃ x, byL l = x := ⟨_, rfl⟩
  rw [hlo, hr1] at HA1
  rw [hhi, hr2] at HA2
  rw [htot] at HB
  rw [hcome] at HF
  rw [hlo, hhi, htot, hcome] at HG
  rw [hlo, hhi] at g1
  rw [htot, hhi] at g2
  have gt : tot ≤ 10000000 := by rw [← htot]; exact hbL
  have gc : come ≤ 1000000 := by rw [← hcome]; exact hb
  obtain ⟨j, hj⟩ : ∃ j, i + n = j := ⟨_, rfl⟩
  obtain ⟨k, hk⟩ : ∃ k, N - i = k := ⟨_, rfl⟩
  obtain ⟨p1, hp1⟩ : ∃ x, N - n = x := ⟨_, rfl⟩
  obtain ⟨p2, hp2⟩ : ∃ x, p1 + m = x := ⟨_, rfl⟩
  obtain ⟨p3, hp3⟩ : ∃ x, hi - lo = x := ⟨_, rfl⟩
  obtain ⟨p4, hp4⟩ : ∃ x, tot - p3 = x := ⟨_, rfl⟩
  obtain ⟨p5, hp5⟩ : ∃ x, p4 + come = x := ⟨_, rfl⟩
  rw [hp1, hp2, hp3, hp4, hp5] at HG
  rw [hj] at HA2
  have d1 : decide ((i : Int) < 0) = false := decide_eq_false (by omega)
  have d2 : decide ((n : Int) < 0) = false := decide_eq_false (by omega)
  have d3 : decide ((N : Int) < (i : Int)) = false := decide_eq_false (by omega)
  have d5 : decide (N < i) = false := decide_eq_false (by omega)
  have e1 : IntKind.i64.wrap ((N : Int) - (i : Int)) = (k : Int) := by rw [show (N : Int) - (i : Int) = (k : Int) by omega]; exact IntWalk.i64_in _ ⟨by omega, by omega⟩
  have d4 : decide ((k : Int) < (n : Int)) = false := decide_eq_false (by omega)
  have d6 : decide (k < n) = false := decide_eq_false (by omega)
  have e2 : IntKind.i64.wrap ((i : Int) + (n : Int)) = (j : Int) := by rw [show (i : Int) + (n : Int) = (j : Int) by omega]; exact IntWalk.i64_in _ ⟨by omega, by omega⟩
  have e3 : IntKind.i64.wrap ((N : Int) - (n : Int)) = (p1 : Int) := by rw [show (N : Int) - (n : Int) = (p1 : Int) by omega]; exact IntWalk.i64_in _ ⟨by omega, by omega⟩
  have e4 : IntKind.i64.wrap ((p1 : Int) + (m : Int)) = (p2 : Int) := by rw [show (p1 : Int) + (m : Int) = (p2 : Int) by omega]; exact IntWalk.i64_in _ ⟨by omega, by omega⟩
  have e5 : IntKind.i64.wrap ((hi : Int) - (lo : Int)) = (p3 : Int) := by rw [show (hi : Int) - (lo : Int) = (p3 : Int) by omega]; exact IntWalk.i64_in _ ⟨by omega, by omega⟩
  have e6 : IntKind.i64.wrap ((tot : Int) - (p3 : Int)) = (p4 : Int) := by rw [show (tot : Int) - (p3 : Int) = (p4 : Int) by omega]; exact IntWalk.i64_in _ ⟨by omega, by omega⟩
  have e7 : IntKind.i64.wrap ((p4 : Int) + (come : Int)) = (p5 : Int) := by rw [show (p4 : Int) + (come : Int) = (p5 : Int) by omega]; exact IntWalk.i64_in _ ⟨by omega, by omega⟩
  clear h hS hm hb hT hyes hfit hN hin hbL g1 g2 g3 g4 gt gc hml hj hk hp1 hp2 hp3 hp4 hp5 hNN hlo hhi hr1 hr2 htot hcome hc
  go_enter Tryd.func13, Tryd.ntmps13
  go_wp2_with (first
    | (go_at_call 21; refine cL.mono ?_; rintro e w1 ⟨rfl, hk1⟩; have HK1 := Lib.hid hk1; clear hk1 cL; have cM := HC.out w1 HK1.out)
    | (go_at_call 21; refine cM.mono ?_; rintro e w2 ⟨rfl, hk2⟩; have HK2 := Lib.hid (HK1.out.trans hk2); clear hk2 cM; have cF := HF.out w2 HK2.out)
    | (go_at_call 25; refine cF.mono ?_; rintro e w3 ⟨rfl, hk3⟩; have HK3 := Lib.hid (HK2.out.trans hk3); clear hk3 cF; have cA := HA1.out w3 HK3.out)
    | (go_at_call 19; refine cA.mono ?_; rintro e w4 ⟨rfl, hk4⟩; have HK4 := Lib.hid (HK3.out.trans hk4); clear hk4 cA; have cA2 := HA2.out w4 HK4.out)
    | (go_at_call 19; refine cA2.mono ?_; rintro e w5 ⟨rfl, hk5⟩; have HK5 := Lib.hid (HK4.out.trans hk5); clear hk5 cA2; have cN := HC.out w5 HK5.out)
    | (go_at_call 21; refine cN.mono ?_; rintro e w6 ⟨rfl, hk6⟩; have HK6 := Lib.hid (HK5.out.trans hk6); clear hk6 cN; have cB := HB.out w6 HK6.out)
    | (go_at_call 30; refine cB.mono ?_; rintro e w7 ⟨rfl, hk7⟩; have HK7 := Lib.hid (HK6.out.trans hk7); clear hk7 cB; have cG := HG.out w7)
    | (go_at_call 26; refine cG.mono ?_; rintro e w8 ⟨rfl, hw⟩; have hw2 := hw.symm; subst hw2; clear cG; have f0 := cell_kept HK7.out (treeX HTX.out) id; have cS := HS1.out w7 HK7.out)
    | (go_at_call 32; refine cS.mono ?_; rintro e w9 ⟨⟨v1, v2, rfl, hv1, hv2⟩, hk9⟩; have HK9 := Lib.hid (HK7.out.trans hk9); have HV1 := Lib.hid hv1; have cT := HS2.out w9 v2 hv2; clear cS hk9 hv1 hv2)
    | (go_at_call 32; refine cT.mono ?_; rintro e wa ⟨⟨v3, v4, rfl, _, hv4⟩, hka⟩; have HKA := Lib.hid (HK9.out.trans hka); have HVA := Lib.hid (HV1.out.kept hka); have HV4 := Lib.hid hv4; clear cT hka hv4; have cU := HBU.out wa HKA.out)
    | (go_at_call 27; refine cU.mono ?_; rintro e wb ⟨⟨v5, rfl, hv5⟩, hkb⟩; have HKB := Lib.hid (HKA.out.trans hkb); have HVB := Lib.hid (HV4.out.kept hkb); have cV := HL1.out wb v1 v5 (HVA.out.kept hkb) hv5; clear cU hkb hv5)
    | (go_at_call 33; refine cV.mono ?_; rintro e wd ⟨⟨v6, rfl, hv6⟩, hkd⟩; have HKD := Lib.hid (HKB.out.trans hkd); have cW := HL2.out wd v6 v4 hv6 (HVB.out.kept hkd); clear cV hkd hv6)
    | (go_at_call 33; refine cW.mono ?_; rintro e we ⟨⟨v7, rfl, hv7⟩, hke⟩; have HKE := Lib.hid (HKD.out.trans hke); obtain ⟨p7, rfl⟩ := hv7.ptr; have HV7 := Lib.hid hv7; have HTE := Lib.hid ((HKE.out.block _ (heap_lt HTX.out) id).trans HTX.out); have g0 := treeX HTE.out; have z0 := frozen_of (i := 0) HTE.out; clear cW hke hv7))
  go_ret
  have hks : Kept (fun q => q = T) we (we.setCell ⟨T, 0, none⟩ (.pointer p7)) := (Kept.refl (fun q => q = T) we).setCell (p := ⟨T, 0, none⟩) rfl _
  exact ⟨rfl, ⟨⟨.pointer p7, heap_set HTE.out _, HV7.out.keptT hks (fun q hq => .inr ⟨_, _, _, by subst hq; exact HTE.out, by decide⟩)⟩, HOS.out⟩, (HKE.out.any (S := fun q => q = T)).trans hks⟩
end Go.Proofs.YtdgbaeliabaneaaDoor
