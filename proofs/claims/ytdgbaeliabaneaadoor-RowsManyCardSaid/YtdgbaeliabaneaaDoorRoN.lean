/-
  A TREE OF ROWS built.
-/
import Derived.Test.YtdgbaeliabaneaaDoorRoM
import Derived.Test.YtdgbaeliabaneaaDoorAsk
set_option linter.unusedVariables false
namespace Go.Proofs.YtdgbaeliabaneaaDoor
open Go Go.RowKit

/-- A slice, cut: where it begins. -/
def cutB (A : Option Addr) (c lo : Nat) : Option Addr := if c = lo then A else A.map (·.add lo)
set_option maxRecDepth 100000 in
theorem run_cut_h (w : World) (A : Option Addr) (n c hi : Nat) (H : Int) (hH : H = hi) (h2 : hi ≤ c) :
    (Instr.slice 22 (.slice A n c) none (some (.int .i64 H)) none).run Tryd.prog w = .ok (.slice (cutB A c 0) hi c) w := by
  subst hH
  rw [run_slice_h (P := Tryd.prog) w 22 A n c Tryd.underlying22 .i64 _ (by omega) (by omega)]
  have hz : ((sizeOf (Tryd.prog.elem 22)).run Tryd.prog w) = .ok 1 w := by kernel_rfl
  rw [hz]
  simp [Result.andThen, sliced, cutB]
set_option maxRecDepth 100000 in
theorem run_cut_l (w : World) (A : Option Addr) (n c lo : Nat) (L : Int) (hL : L = lo) (h1 : lo ≤ n) (h2 : n ≤ c) :
    (Instr.slice 22 (.slice A n c) (some (.int .i64 L)) none none).run Tryd.prog w = .ok (.slice (cutB A c lo) (n - lo) (c - lo)) w := by
  subst hL
  rw [run_slice_l (P := Tryd.prog) w 22 A n c Tryd.underlying22 .i64 _ (by omega) (by omega)]
  have hz : ((sizeOf (Tryd.prog.elem 22)).run Tryd.prog w) = .ok 1 w := by kernel_rfl
  rw [hz]
  simp [Result.andThen, sliced, cutB]
theorem Strs.take {w : World} {A : Option Addr} {n c : Nat} {L : List ByteArray} (h : Strs w A n L) {hi : Nat} (h1 : hi ≤ n) (hc : n ≤ c) : Strs w (cutB A c 0) hi (L.take hi) := by
  refine ⟨by rw [List.length_take, h.1]; omega, fun j s hj => ?_⟩
  rw [List.getElem?_take] at hj
  split at hj
  · rename_i hlt
    obtain ⟨ad, rfl, hcl⟩ := h.2 j s hj
    unfold cutB
    split
    · exact ⟨ad, rfl, hcl⟩
    · refine ⟨ad.add 0, rfl, ?_⟩
      rw [Go.Deep.add_add, Nat.zero_add]; exact hcl
  · cases hj
theorem Strs.drop {w : World} {A : Option Addr} {n c : Nat} {L : List ByteArray} (h : Strs w A n L) {lo : Nat} (h1 : lo ≤ n) (hc : n ≤ c) : Strs w (cutB A c lo) (n - lo) (L.drop lo) := by
  refine ⟨by rw [List.length_drop, h.1], fun j s hj => ?_⟩
  rw [List.getElem?_drop] at hj
  have hlt := (List.getElem?_eq_some_iff.1 hj).1
  have hl := h.1
  obtain ⟨ad, rfl, hcl⟩ := h.2 _ s hj
  unfold cutB
  rw [if_neg (by omega)]
  exact ⟨ad.add lo, rfl, by rw [Go.Deep.add_add]; exact hcl⟩
theorem bits_mono : ∀ (n m : Nat), n ≤ m → bitsN n ≤ bitsN m := by
  intro n
  induction n using Nat.strongRecOn with
  | _ n ih =>
    intro m h
    unfold bitsN
    split
    · omega
    · split
      · omega
      · have := ih (n / 2) (by omega) (m / 2) (by omega)
        omega
theorem bits_near (a b : Nat) (h : a ≤ b + 1) : bitsN a ≤ bitsN b + 1 := by
  by_cases h0 : a = 0
  · subst h0; rw [bitsN, dif_pos rfl]; omega
  · rw [bitsN, dif_neg h0]
    have := bits_mono (a / 2) b (by omega)
    omega
/-- A tree of these rows, as high as must be. -/
def Built (w w' : World) (L : List ByteArray) (e : Ending) : Prop := (∃ v t, e = .returned v ∧ TrM w' X0 v t ∧ t.rows = L ∧ t.avl ∧ t.ht = bitsN L.length) ∧ Kept (fun _ => False) w w'
set_option maxRecDepth 100000 in
set_option maxHeartbeats 4000000 in
theorem build_any : ∀ (N : Nat) (L : List ByteArray) (A : Option Addr) (n c : Nat) (w : World), n ≤ N → Strs w A n L → n ≤ c → OkL L →
    Calls Tryd.prog 27 #[.slice A n c] w fun e w' => Built w w' L e := by
  intro N
  induction N with
  | zero =>
    intro L A n c w hN hS hc hO
    obtain rfl : n = 0 := by omega
    obtain rfl : L = [] := List.length_eq_zero_iff.1 hS.1
    clear hS hO hN
    go_enter Tryd.func27, Tryd.ntmps27
    go_wp2
    go_ret
    exact ⟨⟨_, .nil, rfl, rfl, rfl, trivial, by simp [Tr.ht, bitsN]⟩, Kept.refl _ w⟩
  | succ N ih =>
    intro L A n c w hN hS hc hO
    have hl := hS.1
    have hz := hO.si
    by_cases h0 : n = 0
    · subst h0
      obtain rfl : L = [] := List.length_eq_zero_iff.1 hl
      clear hS hO hN ih hz
      go_enter Tryd.func27, Tryd.ntmps27
      go_wp2
      go_ret
      exact ⟨⟨_, .nil, rfl, rfl, rfl, trivial, by simp [Tr.ht, bitsN]⟩, Kept.refl _ w⟩
    · obtain ⟨m, hm⟩ : ∃ m, n / 2 = m := ⟨_, rfl⟩
      have hmn : m < n := by omega
      obtain ⟨ad, s, hA, hs, hcell, _⟩ := hS.cell hmn
      subst hA
      have hss := hO.sm s (List.mem_of_getElem? hs)
      have eL : L = L.take m ++ s :: L.drop (m + 1) := by
        have hlt : m < L.length := by omega
        have e1 : L.drop m = s :: L.drop (m + 1) := by
          rw [List.drop_eq_getElem_cons hlt]
          congr 1
          rw [List.getElem?_eq_getElem hlt] at hs
          exact Option.some.inj hs
        rw [← e1, List.take_append_drop]
      have hT := hS.take (hi := m) (by omega) hc
      have hD := hS.drop (lo := m + 1) (by omega) hc
      have HFIN : Hid (∀ W v T1 T2, T1.rows = L.take m → T1.avl → T1.ht = bitsN (L.take m).length → T2.rows = L.drop (m + 1) → T2.avl → T2.ht = bitsN (L.drop (m + 1)).length → TrM W X0 v (.node T1 s T2) → Kept (fun _ => False) w W → Built w W L (.returned v)) := fun W v T1 T2 r1 a1 b1 r2 a2 b2 hv hk => by
        rw [List.length_take] at b1
        rw [List.length_drop] at b2
        have hb1 : T1.ht = bitsN m := by rw [b1]; congr 1; omega
        have hb2 : T2.ht = bitsN (n - (m + 1)) := by rw [b2]; congr 1; omega
        have m1 := bits_near m (n - (m + 1)) (by omega)
        have m2 := bits_mono (n - (m + 1)) m (by omega)
        refine ⟨⟨v, _, rfl, hv, by simp only [Tr.rows]; rw [r1, r2]; exact eL.symm, ⟨a1, a2, by omega, by omega⟩, ?_⟩, hk⟩
        simp only [Tr.ht]
        rw [hl, bitsN, dif_neg h0, hm]
        omega
      have HNO : Hid (∀ T1 T2 : Tr, T1.rows = L.take m → T2.rows = L.drop (m + 1) → (Tr.node T1 s T2).Ok) := fun T1 T2 r1 r2 => by rw [Tr.ok_rows]; simp only [Tr.rows]; rw [r1, r2, ← eL]; exact hO
      have hk0 : Hid (Kept (fun _ => False) w w.drew) := (Kept.refl (fun _ => False) w).drew
      have c1 := ih (L.take m) (cutB (some ad) c 0) m c w.drew (by omega) (hT.kept hk0.out) (by omega) (hO.take m)
      have HC2 : Hid (∀ W, Kept (fun _ => False) w W → Calls Tryd.prog 27 #[.slice (cutB (some ad) c (m + 1)) (n - (m + 1)) (c - (m + 1))] W fun e w' => Built W w' (L.drop (m + 1)) e) := fun W hk => ih (L.drop (m + 1)) _ _ _ W (by omega) (hD.kept hk) (by omega) (hO.drop (m + 1))
      have q1 := fun W => run_cut_h W (some ad) n c m (m : Int) rfl (by omega)
      have q2 := fun W => run_cut_l W (some ad) n c (m + 1) ((m : Int) + 1) (by omega) (by omega) hc
      have d0 : ((n : Int) == 0) = false := by rw [beq_eq_false_iff_ne]; omega
      have t0 : wrap64 ((n : Int) / 2) = (m : Int) := by
        rw [show (n : Int) / 2 = (m : Int) by omega]
        exact IntWalk.wrap64_in _ ⟨by omega, by omega⟩
      have t1 : IntKind.i64.wrap ((m : Int) + 1) = (m : Int) + 1 := IntWalk.i64_in _ ⟨by omega, by omega⟩
      have t2 : (0 : Int) ≤ (m : Int) := by omega
      have t3 : (m : Int) < (n : Int) := by omega
      have hCL := fun W => clone_any s W hss.1
      have KF : Hid (∀ W, Kept (fun _ => False) w W → W.cell? (ad.add m) = some (.string s)) := fun W hk => cell_kept hk hcell id
      have KA := KF.out w.drew hk0.out
      obtain ⟨A1, hA1⟩ : ∃ A1, cutB (some ad) c 0 = A1 := ⟨_, rfl⟩
      obtain ⟨A2, hA2⟩ : ∃ A2, cutB (some ad) c (m + 1) = A2 := ⟨_, rfl⟩
      obtain ⟨n2, hn2⟩ : ∃ n2, n - (m + 1) = n2 := ⟨_, rfl⟩
      obtain ⟨c2, hc2⟩ : ∃ c2, c - (m + 1) = c2 := ⟨_, rfl⟩
      rw [hA1] at c1 q1
      rw [hA2, hn2, hc2] at HC2 q2
      clear hT hD hS hs hss eL ih hO hl hz hN hm hmn h0 hc hA1 hA2 hn2 hc2
      go_enter Tryd.func27, Tryd.ntmps27
      go_upto_region 4 with fail
      go_region_held3 (fun (W : World) => W.cell? (ad.add m) = some (.string s))
        (first | with_reducible exact KE | with_reducible exact KD | with_reducible exact KC | with_reducible exact KB | with_reducible exact KA)
        (first
          | (go_at_call 27; refine c1.mono ?_; rintro e w1 ⟨⟨v1, T1, rfl, hv1, r1, a1, b1⟩, hk1⟩; have HK1 := Lib.hid (hk0.out.trans hk1); have HV1 := Lib.hid hv1; have HR1 := Lib.hid (And.intro r1 (And.intro a1 b1)); have KB := KF.out w1 HK1.out; clear c1 hk1 hv1 r1 a1 b1; have cC := hCL w1)
          | (go_at_call 37; refine cC.mono ?_; rintro e w2 ⟨rfl, hk2⟩; have HK2 := Lib.hid (HK1.out.trans hk2); have HK12 := Lib.hid hk2; have KC := KF.out w2 HK2.out; clear cC hk2; have c2 := HC2.out w2 HK2.out)
          | (go_at_call 27; refine c2.mono ?_; rintro e w3 ⟨⟨v3, T2, rfl, hv3, r3, a3, b3⟩, hk3⟩; have HK3 := Lib.hid (HK2.out.trans hk3); have HR3 := Lib.hid (And.intro r3 (And.intro a3 b3)); have KD := KF.out w3 HK3.out; have cO := over_ok v1 v3 T1 T2 s X0 w3 (HV1.out.keptF (HK12.out.trans hk3)) hv3 (fun q _ h => h) (HNO.out T1 T2 HR1.out.1 r3); clear c2 hk3 hv3 r3 a3 b3)
          | (go_at_call 42; refine cO.mono ?_; rintro e w4 ⟨⟨v4, rfl, hv4⟩, hk4⟩; have HK4 := Lib.hid (HK3.out.trans hk4); have KE := KF.out w4 HK4.out; have HV4 := Lib.hid hv4; clear cO hk4 hv4))
      all_goals
        go_wp2_with fail
        go_ret
        exact HFIN.out _ _ T1 T2 HR1.out.1 HR1.out.2.1 HR1.out.2.2 HR3.out.1 HR3.out.2.1 HR3.out.2.2 HV4.out HK4.out
end Go.Proofs.YtdgbaeliabaneaaDoor
