/-
  WHERE A RUNE IS IN A SHORT TEXT OF ASCII BYTES, by the library's own text.
  BRACKETS, of the reference: their kinds, mates, the first one in the row, the pairs around a place.
  THE MATE OF A BRACKET, of the reference: by counting.
  THE CELLS OF A TEXT, as the program tells them: their offsets and their classes.
  THE MATES OF ALL RUNES, of the program: by stacks of its own.
-/
import Derived.Test.YtbofjefblhnkoaaGreatDoorZMg
import Derived.Test.YtbofjefblhnkoaaGreatDoorZM0
import Derived.Laws.Runes
import Derived.Laws.RangeString
import Derived.Deep.LoopGhost
import Derived.WalkMore
import Derived.Deep.RegionHeld3
import Derived.Deep.CutRange
import Derived.Deep.RegionWith
import Derived.Test.YtbofjefblhnkoaaGreatDoorZMk
import Derived.Maps.AppendAt
import Derived.Laws.OwnMore
import Derived.Laws.MakeOwn
set_option linter.unusedVariables false
namespace Go.Proofs.YtbofjefblhnkoaaGreatDoor
open Go Go.RowKit

theorem wrap64_in' {l : Nat} (h : l ≤ 100) : wrap64 (((l + 1 : Nat) : Int) - 1) = (l : Int) := by
  rw [show ((l + 1 : Nat) : Int) - 1 = (l : Int) by omega]
  exact IntWalk.wrap64_in _ ⟨by omega, by omega⟩
theorem lays137 : Go.Proofs.Lays.n137 Tryz.prog Tryz.lays152_ren := { Tryz.lays152 with }
theorem idxb_any (s : ByteArray) (b : UInt8) (w : World) : Calls Tryz.prog 128 #[.string s, .int .u8 b.toNat] w fun e w' => e = .returned (.int .i64 (Lib.indexByte s.data.toList b)) ∧ w' = w := by
  have h := Any.strings_IndexByte lays137 s (b.toNat : Int) w
  rw [show ((b.toNat : Int)).toNat.toUInt8 = b by simp] at h
  exact h
theorem vrune_any (c : Int) (h : Utf8.valid c = true) (w : World) : Calls Tryz.prog 129 #[.int .i32 c] w fun e w' => e = .returned (.bool true) ∧ w' = w := by
  have hv := Utf.int_valid h
  clear h
  rcases hv with ⟨h1, h2⟩ | ⟨h1, h2⟩
  · have b1 : decide (0 ≤ c) = true := decide_eq_true h1
    have b2 : decide (c < 55296) = true := decide_eq_true h2
    go_enter Tryz.func129, Tryz.ntmps129
    go_wp2
    go_ret
    exact ⟨rfl, rfl⟩
  · have b1 : decide (0 ≤ c) = true := decide_eq_true (by omega)
    have b2 : decide (c < 55296) = false := decide_eq_false (by omega)
    have b3 : decide (57343 < c) = true := decide_eq_true (by omega)
    have b4 : decide (c ≤ 1114111) = true := decide_eq_true (by omega)
    go_enter Tryz.func129, Tryz.ntmps129
    go_wp2
    go_ret
    exact ⟨rfl, rfl⟩
theorem idxB_none {l : List UInt8} {b : UInt8} (h : ∀ x ∈ l, x.toNat < 128) (hb : 128 ≤ b.toNat) : Lib.indexByte l b = -1 := by
  induction l with
  | nil => rfl
  | cons x l ih =>
    have hx := h x (by simp)
    have hne : (x == b) = false := by
      rw [beq_eq_false_iff_ne]
      rintro rfl
      omega
    have := ih (fun y hy => h y (by simp [hy]))
    simp [Lib.indexByte, hne, this]
set_option maxRecDepth 100000 in
set_option maxHeartbeats 2000000 in
theorem idxr_err (s : ByteArray) (hs : ∀ x ∈ s.data.toList, x.toNat < 128) (hz : s.size ≤ 100) (w : World) :
    Calls Tryz.prog 115 #[.string s, .int .i32 65533] w fun e w' => e = .returned (.int .i64 (-1)) ∧ Kept (fun _ => False) w w' := by
  have HA := Lib.hid hs
  clear hs
  go_enter Tryz.func115, Tryz.ntmps115
  go_wp2_with fail
  go_loopg [5] s.size (fun g _ wx => ∃ i : Nat, i + g = s.size ∧ wx = w.iter s i)
  case atStart => exact ⟨0, by omega, rfl⟩
  case round =>
    obtain ⟨i, hig, rfl⟩ := hrel
    cases gk with
    | zero =>
      obtain rfl : i = s.size := by omega
      have hnx := run_next_end (P := Tryz.prog) w s s.size
      go_wp2
      go_ret
      exact ⟨rfl, (Kept.refl _ w).alloc _⟩
    | succ g =>
      have hi : i < s.size := by omega
      obtain ⟨x, hx⟩ : ∃ x : UInt8, s[i]'hi = x := ⟨_, rfl⟩
      have hx128 : x.toNat < 128 := HA.out x (by rw [← hx]; exact Array.getElem_mem_toList (xs := s.data) hi)
      have hnx := fun ty => run_next_ascii (P := Tryz.prog) w s i ty hi (by rw [hx]; exact hx128)
      rw [hx] at hnx
      have b1 : ((x.toNat : Int) == 65533) = false := by rw [beq_eq_false_iff_ne]; omega
      clear hx
      go_wp2
      go_roundg g
      case measure => omega
      case rel => exact ⟨i + 1, by omega, rfl⟩
set_option maxRecDepth 100000 in
set_option maxHeartbeats 2000000 in
theorem idxr_far (s : ByteArray) (hs : ∀ x ∈ s.data.toList, x.toNat < 128) (hz : s.size ≤ 100) (c : Int) (h1 : 128 ≤ c) (h2 : c ≠ 65533) (hv : Utf8.valid c = true) (w : World) :
    Calls Tryz.prog 115 #[.string s, .int .i32 c] w fun e w' => e = .returned (.int .i64 (-1)) ∧ Kept (fun _ => False) w w' := by
  obtain ⟨e1, e2, e3⟩ := encode_facts c hv h1
  have cV := vrune_any c hv w
  have hc := Utf.int_valid hv
  have b1 : decide (0 ≤ c) = true := decide_eq_true (by omega)
  have b2 : decide (c < 128) = false := decide_eq_false (by omega)
  have b3 : (c == 65533) = false := by rw [beq_eq_false_iff_ne]; exact h2
  have HA := Lib.hid hs
  have HE := Lib.hid e3
  clear hs hv h2 hc e3
  obtain ⟨l, hl⟩ : ∃ l, (Utf8.encode c).size = l + 1 := ⟨(Utf8.encode c).size - 1, by omega⟩
  obtain ⟨y, hy⟩ : ∃ y, (Utf8.encode c)[l]'(by omega) = y := ⟨_, rfl⟩
  have hy128 : 128 ≤ y.toNat := by
    have := HE.out (by omega)
    rw [← hy]
    simpa [hl] using this
  clear HE
  have b7 : wrap64 (((Utf8.encode c).size : Int) - 1) = (l : Int) := by rw [hl]; exact wrap64_in' (by omega)
  go_enter Tryz.func115, Tryz.ntmps115
  go_wp2_with (go_at_call 129; refine cV.mono ?_; rintro e w1 ⟨rfl, hw⟩; have hw2 := hw.symm; subst hw2)
  go_step3
  go_wp2_with fail
  go_loop [9] (fun v => v = .int .i64 (l : Int)) (fun _ => 0)
  case atStart => simp
  case round =>
    subst hrel
    by_cases hlt : l < s.size
    · obtain ⟨x, hx⟩ : ∃ x, s[l]'hlt = x := ⟨_, rfl⟩
      have hx128 : x.toNat < 128 := HA.out x (by rw [← hx]; exact Array.getElem_mem_toList (xs := s.data) hlt)
      have b4 : ((x.toNat : Int) != (y.toNat : Int)) = true := by rw [bne_iff_ne]; omega
      have cI := fun (W : World) => idxb_any (s.extract (l + 1) s.size) y W
      rw [show Lib.indexByte (s.extract (l + 1) s.size).data.toList y = -1 from idxB_none (fun b hb => HA.out b (mem_extract hb)) hy128] at cI
      have HCI := Lib.hid cI
      have b5 : decide (l < s.size) = true := decide_eq_true hlt
      have b6 : decide ((l : Int) < (s.size : Int)) = true := decide_eq_true (by omega)
      have t0 : IntKind.i64.wrap ((l : Int) + 1) = (l : Int) + 1 := IntWalk.i64_in _ ⟨by omega, by omega⟩
      have t1 : (0 : Int) ≤ (l : Int) + 1 := by omega
      have t2 : (l : Int) + 1 ≤ (s.size : Int) := by omega
      have t3 : ((l : Int) + 1).toNat = l + 1 := by omega
      have t4 : l + 1 ≤ s.size := by omega
      obtain ⟨sx, hsx⟩ : ∃ sx, s.extract (l + 1) s.size = sx := ⟨_, rfl⟩
      have hsl : ∀ u : World, (Instr.slice 9 (.string s) (some (.int .i64 ((l : Int) + 1))) none none).run Tryz.prog u = .ok (.string sx) u := fun u => by
        rw [← hsx]
        rw [run_slice_string_l (P := Tryz.prog) u 9 s Tryz.underlying9 .i64 ((l : Int) + 1) (by omega) (by omega), t3]
      rw [hsx] at HCI
      clear cI hsx
      go_wp2_with fail
      go_step3
      go_upto_region 6 with fail
      go_quiet (fail)
      generalize hW : w.drewN _ = w1
      have HW : Hid (Kept (fun _ => False) w w1) := by show Kept _ w w1; rw [← hW]; exact (Kept.refl _ w).drewN _
      clear hW
      go_upto_region 7 with fail
      go_quiet ((go_at_call 128; exact Calls.quiet_of_same (HCI.out _)))
      go_wp2_with fail
      show bodyPost Tryz.prog Tryz.f115 (fun e w' => e = .returned (.int .i64 (-1)) ∧ Kept (fun _ => False) w w') .ret _ _
      go_ret
      exact ⟨rfl, HW.out.drewN _⟩
    · have b5 : decide (l < s.size) = false := decide_eq_false hlt
      have b6 : decide ((l : Int) < (s.size : Int)) = false := decide_eq_false (by omega)
      go_wp2_with fail
      go_ret
      exact ⟨rfl, Kept.refl _ w⟩
end Go.Proofs.YtbofjefblhnkoaaGreatDoor
namespace Go.Proofs.YtbofjefblhnkoaaGreatDoor
open Go Go.RowKit

theorem opens_any (w : World) : Calls Tryz.prog 119 #[] w fun e w' => ∃ b, e = .returned (.slice (some ⟨b, 0, none⟩) 3 3) ∧ (∀ k, k < 3 → w'.cell? ⟨b, k, none⟩ = some (.int .i32 (Rw.opn k))) ∧ Kept (fun _ => False) w w' := by
  go_enter Tryz.func119, Tryz.ntmps119
  go_wp2
  go_ret
  refine ⟨_, rfl, fun k hk => ?_, (Kept.refl _ w).alloc _⟩
  rw [cell_of_row _ _ _ _ _ _ (heap_alloc_new w _)]
  match k, hk with
  | 0, _ => rfl
  | 1, _ => rfl
  | 2, _ => rfl
theorem shuts_any (w : World) : Calls Tryz.prog 120 #[] w fun e w' => ∃ b, e = .returned (.slice (some ⟨b, 0, none⟩) 3 3) ∧ (∀ k, k < 3 → w'.cell? ⟨b, k, none⟩ = some (.int .i32 (Rw.sht k))) ∧ Kept (fun _ => False) w w' := by
  go_enter Tryz.func120, Tryz.ntmps120
  go_wp2
  go_ret
  refine ⟨_, rfl, fun k hk => ?_, (Kept.refl _ w).alloc _⟩
  rw [cell_of_row _ _ _ _ _ _ (heap_alloc_new w _)]
  match k, hk with
  | 0, _ => rfl
  | 1, _ => rfl
  | 2, _ => rfl
/-- What bracket tells. -/
def brV (c : Int) : Value := match Rw.kdo c with
  | some k => .tuple #[.int .i64 (k : Int), .bool true]
  | none => match Rw.kds c with
    | some k => .tuple #[.int .i64 (k : Int), .bool false]
    | none => .tuple #[.int .i64 (-1), .bool false]
theorem brV_o {k : Nat} (h : k < 3) : brV (Rw.opn k) = .tuple #[.int .i64 (k : Int), .bool true] := by simp [brV, Rw.kdo_opn h]
theorem brV_s {k : Nat} (h : k < 3) : brV (Rw.sht k) = .tuple #[.int .i64 (k : Int), .bool false] := by simp [brV, Rw.kdo_sht, Rw.kds_sht h]
theorem brV_n {c : Int} (h : ∀ j, j < 3 → c ≠ Rw.opn j ∧ c ≠ Rw.sht j) : Rw.kdo c = none ∧ Rw.kds c = none := by
  refine ⟨?_, ?_⟩
  · cases h1 : Rw.kdo c with
    | none => rfl
    | some k => obtain ⟨e, hk⟩ := Rw.kdo_some h1; exact absurd e (h k hk).1
  · cases h1 : Rw.kds c with
    | none => rfl
    | some k => obtain ⟨e, hk⟩ := Rw.kds_some h1; exact absurd e (h k hk).2
set_option maxRecDepth 100000 in
theorem bracket_any (c : Int) (w : World) : Calls Tryz.prog 110 #[.int .i32 c] w fun e w' => e = .returned (brV c) ∧ Kept (fun _ => False) w w' := by
  go_enter Tryz.func110, Tryz.ntmps110
  go_wp2_with (first
    | (go_at_call 119; refine (opens_any _).mono ?_; rintro e w1 ⟨a, rfl, hc1, hk1⟩; have HC1 := Lib.hid hc1; have HK1 := Lib.hid hk1; clear hc1 hk1)
    | (go_at_call 120; refine (shuts_any _).mono ?_; rintro e w2 ⟨b, rfl, hc2, hk2⟩; have HC2 := Lib.hid hc2; have HK2 := Lib.hid hk2; clear hc2 hk2))
  have HCa : Hid (∀ k, k < 3 → w2.cell? ⟨a, k, none⟩ = some (.int .i32 (Rw.opn k))) := fun k hk => cell_kept HK2.out (HC1.out k hk) id
  go_loop [6] (fun v => ∃ k : Nat, k ≤ 3 ∧ v = .int .i64 k ∧ ∀ j, j < k → c ≠ Rw.opn j ∧ c ≠ Rw.sht j) (fun v => 3 - (intOf v).toNat)
  case atStart => exact ⟨0, by omega, rfl, fun j h => by omega⟩
  case round =>
    obtain ⟨k, hk, rfl, hno⟩ := hrel
    have HNO := Lib.hid hno
    clear hno
    by_cases hk3 : k < 3
    · have f1 := HCa.out k hk3
      have f2 := HC2.out k hk3
      have b1 : decide (k < 3) = true := decide_eq_true hk3
      have b2 : decide ((k : Int) < 3) = true := decide_eq_true (by omega)
      have t1 : (0 : Int) ≤ (k : Int) := by omega
      have t2 : (k : Int) < 3 := by omega
      by_cases ho : Rw.opn k = c
      · have HV := Lib.hid (brV_o hk3)
        subst ho
        have e1 : (Rw.opn k == Rw.opn k) = true := by simp
        go_wp2
        refine bodyPost_ret (v := .tuple #[.int .i64 (k : Int), .bool true]) (by simp [results, Tryz.results110, go_sem]) rfl ⟨by rw [HV.out], HK1.out.trans HK2.out⟩
      · have e1 : (Rw.opn k == c) = false := by rw [beq_eq_false_iff_ne]; exact ho
        have HO := Lib.hid ho
        clear ho
        by_cases hs : Rw.sht k = c
        · have HV := Lib.hid (brV_s hk3)
          subst hs
          have e2 : (Rw.sht k == Rw.sht k) = true := by simp
          go_wp2
          refine bodyPost_ret (v := .tuple #[.int .i64 (k : Int), .bool false]) (by simp [results, Tryz.results110, go_sem]) rfl ⟨by rw [HV.out], HK1.out.trans HK2.out⟩
        · have e2 : (Rw.sht k == c) = false := by rw [beq_eq_false_iff_ne]; exact hs
          have HS := Lib.hid hs
          clear hs
          go_wp2
          go_round
          case rel =>
            refine ⟨k + 1, by omega, by go_num, fun j hj => ?_⟩
            by_cases e : j = k
            · subst e; exact ⟨fun h => HO.out h.symm, fun h => HS.out h.symm⟩
            · exact HNO.out j (by omega)
          case measure => simp [intOf]; omega
    · obtain rfl : k = 3 := by omega
      obtain ⟨h1, h2⟩ := brV_n HNO.out
      have HV : Hid (brV c = .tuple #[.int .i64 (-1), .bool false]) := by show _ = _; simp [brV, h1, h2]
      clear h1 h2
      go_wp2
      refine bodyPost_ret (v := .tuple #[.int .i64 (-1), .bool false]) (by simp [results, Tryz.results110, go_sem]) rfl ⟨by rw [HV.out], HK1.out.trans HK2.out⟩
end Go.Proofs.YtbofjefblhnkoaaGreatDoor
namespace Go.Proofs.YtbofjefblhnkoaaGreatDoor
open Go Go.RowKit

theorem opens_at {k : Nat} {o : Int} (hk : k < 3) (ho : Rw.opn k = o) (w : World) : Calls Tryz.prog 119 #[] w fun e w' => ∃ b, e = .returned (.slice (some ⟨b, 0, none⟩) 3 3) ∧ w'.cell? ⟨b, k, none⟩ = some (.int .i32 o) ∧ Kept (fun _ => False) w w' :=
  (opens_any w).mono fun e w' ⟨b, h1, h2, h3⟩ => ⟨b, h1, ho ▸ h2 k hk, h3⟩
theorem shuts_at {k : Nat} {o : Int} (hk : k < 3) (ho : Rw.sht k = o) (w : World) : Calls Tryz.prog 120 #[] w fun e w' => ∃ b, e = .returned (.slice (some ⟨b, 0, none⟩) 3 3) ∧ w'.cell? ⟨b, k, none⟩ = some (.int .i32 o) ∧ Kept (fun _ => False) w w' :=
  (shuts_any w).mono fun e w' ⟨b, h1, h2, h3⟩ => ⟨b, h1, ho ▸ h2 k hk, h3⟩
theorem wrapI {a b : Int} (h : a = b) (h1 : -9223372036854775808 ≤ b) (h2 : b ≤ 9223372036854775807) : IntKind.i64.wrap a = b := by
  rw [h]
  exact IntWalk.i64_in _ ⟨h1, h2⟩
/-- A place as a number; -1: none. -/
def oI (o : Option Nat) : Int := match o with
  | some m => (m : Int)
  | none => -1
/-- A step of the count to the right. -/
theorem fsc_step {t : List Int} {k n a j d : Nat} {R : Option Nat} {y : Int} {B1 B2 : Bool} {D : Nat} (hn : t.length = n) (hj : j < n) (hy : t[j]? = some y) (h : (j = a ∧ d = 0) ∨ (a < j ∧ 1 ≤ d ∧ Rw.fsc t k (n - j) j d = R)) (ha : t[a]? = some (Rw.opn k)) (hR : Rw.mateO t k a = R)
    (hB1 : (y == Rw.opn k) = B1) (hB2 : (y == Rw.sht k) = B2) (hD : (if B1 = true then d + 1 else d) = D) :
    (∃ E, B2 = true ∧ D = E + 2 ∧ Rw.fsc t k (n - (j + 1)) (j + 1) (E + 1) = R) ∨ (B2 = true ∧ D = 1 ∧ R = some j) ∨ (B2 = false ∧ 1 ≤ D ∧ Rw.fsc t k (n - (j + 1)) (j + 1) D = R) := by
  have hne := Rw.opn_sht k k
  rcases h with ⟨rfl, rfl⟩ | ⟨h1, h2, h3⟩
  · rw [ha] at hy
    injection hy with hy
    subst hy
    have e1 : B1 = true := by rw [← hB1]; simp
    have e2 : B2 = false := by rw [← hB2, beq_eq_false_iff_ne]; exact hne
    subst e1 e2
    simp only [if_true] at hD
    subst hD
    refine .inr (.inr ⟨rfl, by omega, ?_⟩)
    rw [← hR, Rw.mateO, hn]
  · obtain ⟨f, hf⟩ : ∃ f, n - j = f + 1 := ⟨n - j - 1, by omega⟩
    have hf' : n - (j + 1) = f := by omega
    rw [hf] at h3
    rw [hf']
    unfold Rw.fsc at h3
    rw [hy] at h3
    by_cases c1 : y = Rw.opn k
    · have e1 : B1 = true := by rw [← hB1, c1]; simp
      have e2 : B2 = false := by rw [← hB2, beq_eq_false_iff_ne, c1]; exact hne
      subst e1 e2
      simp only [if_true] at hD
      subst hD
      rw [if_pos (by rw [c1])] at h3
      exact .inr (.inr ⟨rfl, by omega, h3⟩)
    · have e1 : B1 = false := by rw [← hB1, beq_eq_false_iff_ne]; exact c1
      subst e1
      simp only [Bool.false_eq_true, if_false] at hD
      subst hD
      rw [if_neg (fun e => c1 (Option.some.inj e))] at h3
      by_cases c2 : y = Rw.sht k
      · have e2 : B2 = true := by rw [← hB2, c2]; simp
        subst e2
        rw [if_pos (by rw [c2])] at h3
        by_cases c3 : d ≤ 1
        · rw [if_pos c3] at h3
          exact .inr (.inl ⟨rfl, by omega, h3.symm⟩)
        · rw [if_neg c3] at h3
          refine .inl ⟨d - 2, rfl, by omega, ?_⟩
          rw [show d - 2 + 1 = d - 1 by omega]
          exact h3
      · have e2 : B2 = false := by rw [← hB2, beq_eq_false_iff_ne]; exact c2
        subst e2
        rw [if_neg (fun e => c2 (Option.some.inj e))] at h3
        exact .inr (.inr ⟨rfl, h2, h3⟩)
/-- A step of the count to the left. -/
theorem rsc_step {t : List Int} {k a i d : Nat} {R : Option Nat} {y : Int} {B1 B2 : Bool} {D : Nat} (hy : t[i]? = some y) (h : (i = a ∧ d = 0) ∨ (i < a ∧ 1 ≤ d ∧ Rw.rsc t k (i + 1) d = R)) (ha : t[a]? = some (Rw.sht k)) (hR : (Rw.stk t k a).head? = R)
    (hB1 : (y == Rw.opn k) = B1) (hB2 : (y == Rw.sht k) = B2) (hD : (if B1 = true then d - 1 else d) = D) :
    (B1 = true → 1 ≤ d) ∧ ((B2 = true ∧ Rw.rsc t k i (D + 1) = R) ∨ (B2 = false ∧ D = 0 ∧ R = some i) ∨ (B2 = false ∧ 1 ≤ D ∧ Rw.rsc t k i D = R)) := by
  have hne := Rw.opn_sht k k
  rcases h with ⟨rfl, rfl⟩ | ⟨h1, h2, h3⟩
  · rw [ha] at hy
    injection hy with hy
    subst hy
    have e1 : B1 = false := by rw [← hB1, beq_eq_false_iff_ne]; exact fun e => hne e.symm
    have e2 : B2 = true := by rw [← hB2]; simp
    subst e1 e2
    simp only [Bool.false_eq_true, if_false] at hD
    subst hD
    refine ⟨fun h => (by cases h), .inl ⟨rfl, ?_⟩⟩
    rw [Rw.rsc_stk t k i 1 (by omega), ← hR, List.head?_eq_getElem?]
  · refine ⟨fun _ => h2, ?_⟩
    unfold Rw.rsc at h3
    rw [hy] at h3
    by_cases c1 : y = Rw.opn k
    · have e1 : B1 = true := by rw [← hB1, c1]; simp
      have e2 : B2 = false := by rw [← hB2, beq_eq_false_iff_ne, c1]; exact hne
      subst e1 e2
      simp only [if_true] at hD
      subst hD
      rw [if_pos (by rw [c1])] at h3
      by_cases c3 : d ≤ 1
      · rw [if_pos c3] at h3
        exact .inr (.inl ⟨rfl, by omega, h3.symm⟩)
      · rw [if_neg c3] at h3
        exact .inr (.inr ⟨rfl, by omega, h3⟩)
    · have e1 : B1 = false := by rw [← hB1, beq_eq_false_iff_ne]; exact c1
      subst e1
      simp only [Bool.false_eq_true, if_false] at hD
      subst hD
      rw [if_neg (fun e => c1 (Option.some.inj e))] at h3
      by_cases c2 : y = Rw.sht k
      · have e2 : B2 = true := by rw [← hB2, c2]; simp
        subst e2
        rw [if_pos (by rw [c2])] at h3
        exact .inl ⟨rfl, h3⟩
      · have e2 : B2 = false := by rw [← hB2, beq_eq_false_iff_ne]; exact c2
        subst e2
        rw [if_neg (fun e => c2 (Option.some.inj e))] at h3
        exact .inr (.inr ⟨rfl, h2, h3⟩)
set_option maxRecDepth 100000 in
set_option maxHeartbeats 1000000 in
theorem rmateO_any (A : Option Addr) (n c k at' : Nat) (t : List Int) (w : World) (hA : Rn w A n t) (hn : n ≤ 100000) (hk : k < 3) (hx : t[at']? = some (Rw.opn k)) :
    Calls Tryz.prog 105 #[.slice A n c, .int .i64 at'] w fun e w' => e = .returned (.int .i64 (Rw.mt t at')) ∧ Kept (fun _ => False) w w' := by
  have hmt : Rw.mt t at' = oI (Rw.mateO t k at') := by unfold Rw.mt; rw [Rw.mate_open hk hx]; cases Rw.mateO t k at' <;> rfl
  have hatn : at' < n := by rw [← hA.1]; exact (List.getElem?_eq_some_iff.1 hx).1
  have cBr := bracket_any (Rw.opn k) w
  rw [brV_o hk] at cBr
  obtain ⟨o, ho⟩ : ∃ o, Rw.opn k = o := ⟨_, rfl⟩
  obtain ⟨s, hs⟩ : ∃ s, Rw.sht k = s := ⟨_, rfl⟩
  obtain ⟨ad, x, rfl, hx2, hcx⟩ := hA.cell hatn
  have hxo : x = o := by rw [hx] at hx2; injection hx2 with e; rw [← e, ho]
  subst hxo
  rw [ho] at cBr
  obtain ⟨R, hR⟩ : ∃ R, Rw.mateO t k at' = R := ⟨_, rfl⟩
  rw [hmt, hR]
  have HA := Lib.hid hA
  have HR := Lib.hid hR
  have HO := Lib.hid ho
  have HS := Lib.hid hs
  have HX := Lib.hid hx
  have hlen := hA.1
  have HL := Lib.hid hlen
  clear hA hmt hx hx2 hR ho hs hlen
  have t1 : (0 : Int) ≤ (k : Int) := by omega
  have t2 : (k : Int) < 3 := by omega
  go_enter Tryz.func105, Tryz.ntmps105
  go_wp2_with (go_at_call 110; refine cBr.mono ?_; rintro e w1 ⟨rfl, hk1⟩; have HK1 := Lib.hid hk1; have HA1 := Lib.hid (HA.out.kept hk1 (fun _ _ => id)); clear hk1 cBr)
  clear hcx
  go_loopw [8, 9] (fun dv iv wr => ∃ j d : Nat, dv = .int .i64 d ∧ iv = .int .i64 j ∧ j ≤ n ∧ d ≤ j ∧ ((j = at' ∧ d = 0) ∨ (at' < j ∧ 1 ≤ d ∧ Rw.fsc t k (n - j) j d = R)) ∧ Kept (fun _ => False) w1 wr) (fun _ iv _ => n - (intOf iv).toNat)
  case atStart => exact ⟨at', 0, rfl, rfl, by omega, by omega, .inl ⟨rfl, rfl⟩, Kept.refl _ _⟩
  case round =>
    obtain ⟨j, d, rfl, rfl, hjn, hdj, hst, hkept⟩ := hrel
    have HST := Lib.hid hst
    have HK := Lib.hid hkept
    clear hst hkept
    have b0 : decide ((0 : Int) ≤ (j : Int)) = true := decide_eq_true (by omega)
    by_cases hlt : j < n
    · obtain ⟨ad', y, he, hy, hcy⟩ := HA1.out.cell hlt
      injection he with he
      subst he
      have f1 := cell_kept HK.out hcy id
      have HY := Lib.hid hy
      clear hy hcy
      have b1 : decide (j < n) = true := decide_eq_true hlt
      have b2 : decide ((j : Int) < (n : Int)) = true := decide_eq_true (by omega)
      obtain ⟨B1, hB1⟩ : ∃ B, (y == x) = B := ⟨_, rfl⟩
      obtain ⟨B2, hB2⟩ : ∃ B, (y == s) = B := ⟨_, rfl⟩
      have HB1 := Lib.hid hB1
      have HB2 := Lib.hid hB2
      clear hB2
      go_upto_region 13 with fail
      go_cut [46] from 38 to 46 (fun v wx => v = .bool B1 ∧ Kept (fun _ => False) wr wx)
      case first =>
        go_region_with (go_at_call 119; refine (opens_at (by omega) HO.out _).mono ?_; rintro e w8 ⟨b, rfl, g1, hk8⟩; have K2 := cell_kept hk8 f1 id; have HK8 := Lib.hid hk8; clear hk8)
        all_goals
          go_wp2_with fail
          go_meet
          exact ⟨rfl, (Kept.refl (fun _ => False) wr).drew.trans HK8.out⟩
      case rest =>
        obtain ⟨rfl, hk2⟩ := hcut
        have HK2 := Lib.hid (HK.out.trans hk2)
        have f2 := cell_kept hk2 f1 id
        clear hk2 hB1 f1
        obtain ⟨v2, hv2⟩ : ∃ v, v = wc := ⟨_, rfl⟩
        subst hv2
        obtain ⟨D, hD⟩ : ∃ D : Nat, (if B1 = true then d + 1 else d) = D := ⟨_, rfl⟩
        have HD := Lib.hid hD
        have hdn : d ≤ 100000 := by omega
        go_upto_if 46 with fail
        go_cut [8] from 47 to 49 (fun v wx => v = .int .i64 (D : Nat) ∧ wx = v2)
        case first =>
          cases B1 with
          | true =>
            have e : D = d + 1 := hD.symm
            subst e
            clear hD
            go_wp2_with fail
            go_meet
            exact ⟨by go_num, rfl⟩
          | false =>
            have e : D = d := hD.symm
            subst e
            clear hD
            go_wp2_with fail
            go_meet
            exact ⟨rfl, rfl⟩
        case rest =>
          obtain ⟨rfl, hw⟩ := hcut
          have hw2 := hw.symm
          clear hw
          subst hw2
          clear hD
          go_upto_region 15 with fail
          have hB2 := HB2.out
          go_cut [58] from 50 to 58 (fun v wx => v = .bool B2 ∧ Kept (fun _ => False) v2 wx)
          case first =>
            go_region_with (go_at_call 120; refine (shuts_at (by omega) HS.out _).mono ?_; rintro e w8 ⟨b, rfl, g1, hk8⟩; have K2 := cell_kept hk8 f2 id; have HK8 := Lib.hid hk8; clear hk8)
            all_goals
              go_wp2_with fail
              go_meet
              exact ⟨rfl, (Kept.refl (fun _ => False) v2).drew.trans HK8.out⟩
          case rest =>
            obtain ⟨rfl, hk3⟩ := hcut
            have HK3 := Lib.hid (HK2.out.trans hk3)
            clear hk3 hB2 f2
            have hend := fsc_step (B1 := B1) (B2 := B2) HL.out hlt HY.out HST.out HX.out HR.out (by rw [HO.out]; exact HB1.out) (by rw [HS.out]; exact HB2.out) HD.out
            have hDn : D ≤ j + 1 := by rw [← HD.out]; split <;> omega
            rcases hend with ⟨E, rfl, rfl, he⟩ | ⟨rfl, rfl, he⟩ | ⟨rfl, h1, he⟩
            · have HE := Lib.hid he
              have b5 : ((E : Int) + 1 == 0) = false := by rw [beq_eq_false_iff_ne]; omega
              have b6 : (E + 1 == 0) = false := by rw [beq_eq_false_iff_ne]; omega
              have b7 : IntKind.i64.wrap (((E + 2 : Nat) : Int) - 1) = ((E + 1 : Nat) : Int) := wrapI (by omega) (by omega) (by omega)
              clear he
              go_wp2_with fail
              go_roundw
              case rel => exact ⟨j + 1, E + 1, by go_num, by go_num, by omega, by omega, .inr ⟨by rcases HST.out with h | h <;> omega, by omega, HE.out⟩, HK3.out⟩
              case measure => simp [intOf] <;> omega
            · have HE := Lib.hid he
              clear he
              go_wp2_with fail
              go_ret
              rw [HE.out]
              exact ⟨rfl, HK1.out.trans HK3.out⟩
            · have HE := Lib.hid he
              have b5 : ((D : Int) == 0) = false := by rw [beq_eq_false_iff_ne]; omega
              have b6 : (D == 0) = false := by rw [beq_eq_false_iff_ne]; omega
              clear he
              go_wp2_with fail
              go_roundw
              case rel => exact ⟨j + 1, D, rfl, by go_num, by omega, by omega, .inr ⟨by rcases HST.out with h | h <;> omega, by omega, HE.out⟩, HK3.out⟩
              case measure => simp [intOf] <;> omega
    · obtain rfl : j = n := by omega
      have hR : R = none := by
        rcases HST.out with ⟨h, _⟩ | ⟨_, _, h⟩
        · omega
        · rw [← h, Nat.sub_self]; rfl
      subst hR
      have b1 : decide (j < j) = false := decide_eq_false (by omega)
      have b2 : decide ((j : Int) < (j : Int)) = false := decide_eq_false (by omega)
      go_wp2_with fail
      go_ret
      exact ⟨rfl, HK1.out.trans HK.out⟩
set_option maxRecDepth 100000 in
set_option maxHeartbeats 1000000 in
theorem rmateS_any (A : Option Addr) (n c k at' : Nat) (t : List Int) (w : World) (hA : Rn w A n t) (hn : n ≤ 100000) (hk : k < 3) (hx : t[at']? = some (Rw.sht k)) :
    Calls Tryz.prog 105 #[.slice A n c, .int .i64 at'] w fun e w' => e = .returned (.int .i64 (Rw.mt t at')) ∧ Kept (fun _ => False) w w' := by
  have hmt : Rw.mt t at' = oI (Rw.stk t k at').head? := by unfold Rw.mt; rw [Rw.mate_shut hk hx]; cases (Rw.stk t k at').head? <;> rfl
  have hatn : at' < n := by rw [← hA.1]; exact (List.getElem?_eq_some_iff.1 hx).1
  have cBr := bracket_any (Rw.sht k) w
  rw [brV_s hk] at cBr
  obtain ⟨o, ho⟩ : ∃ o, Rw.opn k = o := ⟨_, rfl⟩
  obtain ⟨s, hs⟩ : ∃ s, Rw.sht k = s := ⟨_, rfl⟩
  obtain ⟨ad, x, rfl, hx2, hcx⟩ := hA.cell hatn
  have hxs : x = s := by rw [hx] at hx2; injection hx2 with e; rw [← e, hs]
  subst hxs
  rw [hs] at cBr
  obtain ⟨R, hR⟩ : ∃ R, (Rw.stk t k at').head? = R := ⟨_, rfl⟩
  rw [hmt, hR]
  have HA := Lib.hid hA
  have HR := Lib.hid hR
  have HO := Lib.hid ho
  have HS := Lib.hid hs
  have HX := Lib.hid hx
  have hlen := hA.1
  have HL := Lib.hid hlen
  clear hA hmt hx hx2 hR ho hs hlen
  have t1 : (0 : Int) ≤ (k : Int) := by omega
  have t2 : (k : Int) < 3 := by omega
  go_enter Tryz.func105, Tryz.ntmps105
  go_wp2_with (go_at_call 110; refine cBr.mono ?_; rintro e w1 ⟨rfl, hk1⟩; have HK1 := Lib.hid hk1; have HA1 := Lib.hid (HA.out.kept hk1 (fun _ _ => id)); clear hk1 cBr)
  clear hcx
  go_loopw [8, 9] (fun dv iv wr => ∃ (j d : Nat) (I : Int), dv = .int .i64 d ∧ iv = .int .i64 I ∧ I + 1 = (j : Int) ∧ j ≤ at' + 1 ∧ d + j ≤ at' + 1 ∧ ((j = at' + 1 ∧ d = 0) ∨ (j ≤ at' ∧ 1 ≤ d ∧ Rw.rsc t k j d = R)) ∧ Kept (fun _ => False) w1 wr) (fun _ iv _ => (intOf iv + 1).toNat)
  case atStart => exact ⟨at' + 1, 0, at', rfl, rfl, by omega, by omega, by omega, .inl ⟨rfl, rfl⟩, Kept.refl _ _⟩
  case round =>
    obtain ⟨j, d, I, rfl, rfl, hIj, hjn, hdj, hst, hkept⟩ := hrel
    have HST := Lib.hid hst
    have HK := Lib.hid hkept
    clear hst hkept
    by_cases hj0 : 1 ≤ j
    · obtain ⟨i, rfl⟩ : ∃ i, j = i + 1 := ⟨j - 1, by omega⟩
      obtain rfl : I = (i : Int) := by omega
      have hlt : i < n := by omega
      have b0 : decide ((0 : Int) ≤ (i : Int)) = true := decide_eq_true (by omega)
      obtain ⟨ad', y, he, hy, hcy⟩ := HA1.out.cell hlt
      injection he with he
      subst he
      have f1 := cell_kept HK.out hcy id
      have HY := Lib.hid hy
      clear hy hcy hIj
      have b1 : decide (i < n) = true := decide_eq_true hlt
      have b2 : decide ((i : Int) < (n : Int)) = true := decide_eq_true (by omega)
      obtain ⟨B1, hB1⟩ : ∃ B, (y == o) = B := ⟨_, rfl⟩
      obtain ⟨B2, hB2⟩ : ∃ B, (y == x) = B := ⟨_, rfl⟩
      have HB1 := Lib.hid hB1
      have HB2 := Lib.hid hB2
      clear hB2
      go_upto_region 13 with fail
      go_cut [46] from 38 to 46 (fun v wx => v = .bool B1 ∧ Kept (fun _ => False) wr wx)
      case first =>
        go_region_with (go_at_call 119; refine (opens_at (by omega) HO.out _).mono ?_; rintro e w8 ⟨b, rfl, g1, hk8⟩; have K2 := cell_kept hk8 f1 id; have HK8 := Lib.hid hk8; clear hk8)
        all_goals
          go_wp2_with fail
          go_meet
          exact ⟨rfl, (Kept.refl (fun _ => False) wr).drew.trans HK8.out⟩
      case rest =>
        obtain ⟨rfl, hk2⟩ := hcut
        have HK2 := Lib.hid (HK.out.trans hk2)
        have f2 := cell_kept hk2 f1 id
        clear hk2 hB1 f1
        obtain ⟨v2, hv2⟩ : ∃ v, v = wc := ⟨_, rfl⟩
        subst hv2
        obtain ⟨D, hD⟩ : ∃ D : Nat, (if B1 = true then d - 1 else d) = D := ⟨_, rfl⟩
        have HD := Lib.hid hD
        have hend := rsc_step (B1 := B1) (B2 := B2) (d := d) HY.out (by rcases HST.out with h | h; exact .inl ⟨by omega, h.2⟩; exact .inr ⟨by omega, h.2⟩) HX.out HR.out (by rw [HO.out]; exact HB1.out) (by rw [HS.out]; exact HB2.out) HD.out
        have HEND := Lib.hid hend.2
        have hd1 := hend.1
        clear hend
        have hdn : d ≤ 100000 := by omega
        have hDn : D ≤ d := by rw [← HD.out]; split <;> omega
        go_upto_if 46 with fail
        go_cut [8] from 47 to 49 (fun v wx => v = .int .i64 (D : Nat) ∧ wx = v2)
        case first =>
          cases B1 with
          | true =>
            obtain ⟨e, rfl⟩ : ∃ e, d = e + 1 := ⟨d - 1, by have := hd1 rfl; omega⟩
            have e' : D = e := hD.symm
            subst e'
            clear hD hd1
            have b7 : IntKind.i64.wrap (((D + 1 : Nat) : Int) + -1) = (D : Int) := wrapI (by omega) (by omega) (by omega)
            have b8 : IntKind.i64.wrap ((D : Int) + 1 + -1) = (D : Int) := wrapI (by omega) (by omega) (by omega)
            go_wp2_with fail
            go_meet
            exact ⟨by go_num, rfl⟩
          | false =>
            have e : D = d := hD.symm
            subst e
            clear hD hd1
            go_wp2_with fail
            go_meet
            exact ⟨rfl, rfl⟩
        case rest =>
          obtain ⟨rfl, hw⟩ := hcut
          have hw2 := hw.symm
          clear hw
          subst hw2
          clear hD hd1
          go_upto_region 15 with fail
          have hB2 := HB2.out
          go_cut [58] from 50 to 58 (fun v wx => v = .bool B2 ∧ Kept (fun _ => False) v2 wx)
          case first =>
            go_region_with (go_at_call 120; refine (shuts_at (by omega) HS.out _).mono ?_; rintro e w8 ⟨b, rfl, g1, hk8⟩; have K2 := cell_kept hk8 f2 id; have HK8 := Lib.hid hk8; clear hk8)
            all_goals
              go_wp2_with fail
              go_meet
              exact ⟨rfl, (Kept.refl (fun _ => False) v2).drew.trans HK8.out⟩
          case rest =>
            obtain ⟨rfl, hk3⟩ := hcut
            have HK3 := Lib.hid (HK2.out.trans hk3)
            clear hk3 hB2 f2
            rcases HEND.out with ⟨rfl, he⟩ | ⟨rfl, rfl, he⟩ | ⟨rfl, h1, he⟩
            · have HE := Lib.hid he
              have b5 : ((D : Int) + 1 == 0) = false := by rw [beq_eq_false_iff_ne]; omega
              have b6 : (D + 1 == 0) = false := by rw [beq_eq_false_iff_ne]; omega
              have b7 : IntKind.i64.wrap ((D : Int) - -1) = (D : Int) + 1 := wrapI (by omega) (by omega) (by omega)
              have b8 : IntKind.i64.wrap ((i : Int) + -1) = (i : Int) - 1 := wrapI (by omega) (by omega) (by omega)
              clear he
              go_wp2_with fail
              go_roundw
              case rel => exact ⟨i, D + 1, (i : Int) - 1, by go_num, by go_num, by omega, by omega, by rcases HST.out with h | h <;> omega, .inr ⟨by omega, by omega, HE.out⟩, HK3.out⟩
              case measure => simp [intOf] <;> omega
            · have HE := Lib.hid he
              clear he
              go_wp2_with fail
              go_ret
              rw [HE.out]
              exact ⟨rfl, HK1.out.trans HK3.out⟩
            · have HE := Lib.hid he
              have b5 : ((D : Int) == 0) = false := by rw [beq_eq_false_iff_ne]; omega
              have b6 : (D == 0) = false := by rw [beq_eq_false_iff_ne]; omega
              have b8 : IntKind.i64.wrap ((i : Int) + -1) = (i : Int) - 1 := wrapI (by omega) (by omega) (by omega)
              clear he
              go_wp2_with fail
              go_roundw
              case rel => exact ⟨i, D, (i : Int) - 1, rfl, by go_num, by omega, by omega, by omega, .inr ⟨by omega, by omega, HE.out⟩, HK3.out⟩
              case measure => simp [intOf] <;> omega
    · obtain rfl : j = 0 := by omega
      obtain rfl : I = -1 := by omega
      have hR : R = none := by
        rcases HST.out with ⟨h, _⟩ | ⟨_, _, h⟩
        · omega
        · rw [← h]; rfl
      subst hR
      go_wp2_with fail
      go_ret
      exact ⟨rfl, HK1.out.trans HK.out⟩
set_option maxRecDepth 100000 in
theorem rmate_any (A : Option Addr) (n c at' : Nat) (t : List Int) (w : World) (hA : Rn w A n t) (hn : n ≤ 100000) :
    Calls Tryz.prog 105 #[.slice A n c, .int .i64 at'] w fun e w' => e = .returned (.int .i64 (Rw.mt t at')) ∧ Kept (fun _ => False) w w' := by
  by_cases hlt : at' < n
  · obtain ⟨ad, x, rfl, hx, hcx⟩ := hA.cell hlt
    cases ho : Rw.kdo x with
    | some k =>
      obtain ⟨rfl, hk⟩ := Rw.kdo_some ho
      exact rmateO_any _ n c k at' t w hA hn hk hx
    | none =>
      cases hs : Rw.kds x with
      | some k =>
        obtain ⟨rfl, hk⟩ := Rw.kds_some hs
        exact rmateS_any _ n c k at' t w hA hn hk hx
      | none =>
        have hmt : Rw.mt t at' = -1 := by unfold Rw.mt; rw [Rw.mate_none hx ho hs]
        have cBr := bracket_any x w
        rw [show brV x = .tuple #[.int .i64 (-1), .bool false] by simp [brV, ho, hs]] at cBr
        rw [hmt]
        clear hmt ho hs hx hA
        go_enter Tryz.func105, Tryz.ntmps105
        go_wp2_with (go_at_call 110; refine cBr.mono ?_; rintro e w1 ⟨rfl, hk1⟩; have HK1 := Lib.hid hk1; clear hk1 cBr)
        go_ret
        exact ⟨rfl, HK1.out⟩
  · have hmt : Rw.mt t at' = -1 := by unfold Rw.mt; rw [Rw.mate_far (by rw [hA.1]; omega)]
    have b1 : decide (n ≤ at') = true := decide_eq_true (by omega)
    have b2 : decide ((n : Int) ≤ (at' : Int)) = true := decide_eq_true (by omega)
    rw [hmt]
    clear hmt hA
    go_enter Tryz.func105, Tryz.ntmps105
    go_wp2
    go_ret
    exact ⟨rfl, Kept.refl _ _⟩
end Go.Proofs.YtbofjefblhnkoaaGreatDoor
namespace Go.Proofs.YtbofjefblhnkoaaGreatDoor
open Go Go.RowKit

theorem own_at2 {w : World} {base : Nat} {v : Value} {l : List Nat} {k i : Nat} (hi : l[k]? = some i) (h : w.ownsRow base 3 1 v (k + 1) ((ats (l.take k)).map (Value.int .i64) ++ [.int .i64 (i : Int)])) : w.ownsRow base 3 1 v (k + 1) ((ats (l.take (k + 1))).map (Value.int .i64)) := by
  unfold ats at *
  rw [List.take_add_one, hi, List.map_append, List.map_append]
  exact h
theorem own_kls2 {w : World} {base : Nat} {v : Value} {t : List Int} {big : Bool} {l : List Nat} {k i : Nat} {q : Int} (hi : l[k]? = some i) (hq : q = Rw.at_ t big i) (h : w.ownsRow base 3 1 v (k + 1) ((kls t big (l.take k)).map (Value.int .i64) ++ [.int .i64 q])) : w.ownsRow base 3 1 v (k + 1) ((kls t big (l.take (k + 1))).map (Value.int .i64)) := by
  unfold kls at *
  rw [List.take_add_one, hi, List.map_append, List.map_append]
  subst hq
  exact h
end Go.Proofs.YtbofjefblhnkoaaGreatDoor
namespace Go.Proofs.YtbofjefblhnkoaaGreatDoor
open Go Go.RowKit

/-- Runes that may be. -/
def Vald (t : List Int) : Prop := ∀ r ∈ t, Utf8.valid r = true
theorem vald_rs {s : ByteArray} (h : mayB s = true) : Vald (rs s) := Utf.valid_runes (mayB_valid h)
theorem Vald.runey {t : List Int} (h : Vald t) : Runey t := fun r hr => by have := Utf.int_valid (h r hr); omega
theorem asc3 : ∀ x ∈ (⟨#[40, 91, 123]⟩ : ByteArray).data.toList, x.toNat < 128 := by decide
theorem asc3' : ∀ x ∈ (⟨#[41, 93, 125]⟩ : ByteArray).data.toList, x.toNat < 128 := by decide
theorem asc6 : ∀ x ∈ (⟨#[40, 91, 123, 41, 93, 125]⟩ : ByteArray).data.toList, x.toNat < 128 := by decide
set_option maxRecDepth 100000 in
theorem fin_o : ∀ n, n < 128 → Lib.indexByte (⟨#[40, 91, 123]⟩ : ByteArray).data.toList (n : Nat).toUInt8 = oI (Rw.kdo (n : Nat)) := by decide
set_option maxRecDepth 100000 in
theorem fin_s : ∀ n, n < 128 → Lib.indexByte (⟨#[41, 93, 125]⟩ : ByteArray).data.toList (n : Nat).toUInt8 = oI (Rw.kds (n : Nat)) := by decide
set_option maxRecDepth 100000 in
theorem fin_b : ∀ n, n < 128 → decide (0 ≤ Lib.indexByte (⟨#[40, 91, 123, 41, 93, 125]⟩ : ByteArray).data.toList (n : Nat).toUInt8) = Rw.isBr (n : Nat) := by decide
theorem kd_far {c : Int} (h : 128 ≤ c) : Rw.kdo c = none ∧ Rw.kds c = none := by
  unfold Rw.kdo Rw.kds
  constructor
  · rw [if_neg (by omega), if_neg (by omega), if_neg (by omega)]
  · rw [if_neg (by omega), if_neg (by omega), if_neg (by omega)]
theorem idxr_asc (s : ByteArray) (c : Nat) (h : c < 128) (w : World) : Calls Tryz.prog 115 #[.string s, .int .i32 (c : Int)] w fun e w' => e = .returned (.int .i64 (Lib.indexByte s.data.toList c.toUInt8)) ∧ Kept (fun _ => False) w w' :=
  (Any.strings_IndexRune_ascii Tryz.lays152 s (c : Int) w (by omega) (by omega)).mono fun e w' ⟨h1, h2⟩ => ⟨by rw [h1, Int.toNat_natCast], by rw [h2]; exact Kept.refl _ _⟩
theorem idxr_out (s : ByteArray) (hs : ∀ x ∈ s.data.toList, x.toNat < 128) (hz : s.size ≤ 100) (c : Int) (h1 : 128 ≤ c) (hv : Utf8.valid c = true) (w : World) :
    Calls Tryz.prog 115 #[.string s, .int .i32 c] w fun e w' => e = .returned (.int .i64 (-1)) ∧ Kept (fun _ => False) w w' := by
  by_cases h2 : c = 65533
  · subst h2; exact idxr_err s hs hz w
  · exact idxr_far s hs hz c h1 h2 hv w
theorem idxo_any (c : Int) (hv : Utf8.valid c = true) (w : World) : Calls Tryz.prog 115 #[.string ⟨#[40, 91, 123]⟩, .int .i32 c] w fun e w' => e = .returned (.int .i64 (oI (Rw.kdo c))) ∧ Kept (fun _ => False) w w' := by
  have hc := Utf.int_valid hv
  by_cases h : c < 128
  · obtain ⟨n, rfl⟩ := Int.eq_ofNat_of_zero_le (show 0 ≤ c by omega)
    rw [← fin_o n (by omega)]
    exact idxr_asc _ n (by omega) w
  · rw [(kd_far (show 128 ≤ c by omega)).1]
    exact idxr_out _ asc3 (by decide) c (by omega) hv w
theorem idxs_any (c : Int) (hv : Utf8.valid c = true) (w : World) : Calls Tryz.prog 115 #[.string ⟨#[41, 93, 125]⟩, .int .i32 c] w fun e w' => e = .returned (.int .i64 (oI (Rw.kds c))) ∧ Kept (fun _ => False) w w' := by
  have hc := Utf.int_valid hv
  by_cases h : c < 128
  · obtain ⟨n, rfl⟩ := Int.eq_ofNat_of_zero_le (show 0 ≤ c by omega)
    rw [← fin_s n (by omega)]
    exact idxr_asc _ n (by omega) w
  · rw [(kd_far (show 128 ≤ c by omega)).2]
    exact idxr_out _ asc3' (by decide) c (by omega) hv w
theorem isBr_any (c : Int) (hv : Utf8.valid c = true) (w : World) : Calls Tryz.prog 94 #[.string ⟨#[40, 91, 123, 41, 93, 125]⟩, .int .i32 c] w fun e w' => e = .returned (.bool (Rw.isBr c)) ∧ Kept (fun _ => False) w w' := by
  have hc := Utf.int_valid hv
  have hI : ∃ r : Int, decide (0 ≤ r) = Rw.isBr c ∧ ∀ W, Calls Tryz.prog 115 #[.string ⟨#[40, 91, 123, 41, 93, 125]⟩, .int .i32 c] W fun e w' => e = .returned (.int .i64 r) ∧ Kept (fun _ => False) W w' := by
    by_cases h : c < 128
    · obtain ⟨n, rfl⟩ := Int.eq_ofNat_of_zero_le (show 0 ≤ c by omega)
      exact ⟨_, fin_b n (by omega), fun W => idxr_asc _ n (by omega) W⟩
    · obtain ⟨h1, h2⟩ := kd_far (show 128 ≤ c by omega)
      exact ⟨-1, by simp [Rw.isBr, h1, h2], fun W => idxr_out _ asc6 (by decide) c (by omega) hv W⟩
  obtain ⟨r, hr, cI⟩ := hI
  have HR := Lib.hid hr
  clear hr hc hv
  go_enter Tryz.func94, Tryz.ntmps94
  go_wp2_with (go_at_call 115; refine (cI _).mono ?_; rintro e w1 ⟨rfl, hk1⟩)
  go_ret
  rw [← HR.out]
  exact ⟨rfl, hk1⟩
/-- A block of one's own that holds numbers. -/
structure OwnN (w : World) (g n : Nat) (t : List Int) : Prop where
  nums : Nums w (some ⟨g, 0, none⟩) n t
  blk : ∃ (cs : Array Value) (ty : TypeId), w.heap[g]? = some (.cells cs ty (0, 0))
theorem Nums.set {w : World} {g n : Nat} {t : List Int} (h : Nums w (some ⟨g, 0, none⟩) n t) {k : Nat} (hk : k < n) (v : Int) : Nums (w.setCell ⟨g, k, none⟩ (.int .i64 v)) (some ⟨g, 0, none⟩) n (t.set k v) := by
  refine ⟨by rw [List.length_set]; exact h.1, fun j x hj => ⟨_, rfl, ?_⟩⟩
  rw [addr_add, Nat.zero_add]
  have hl := h.1
  by_cases e : k = j
  · subst e
    rw [List.getElem?_set_self (by omega)] at hj
    injection hj with hj
    subst hj
    obtain ⟨ad, y, e1, hy, hc⟩ := h.cell hk
    injection e1 with e1
    subst e1
    rw [addr_add, Nat.zero_add] at hc
    exact World.cell?_setCell_same _ _ _ hc
  · rw [List.getElem?_set_ne e] at hj
    obtain ⟨ad, e1, hc⟩ := h.2 j x hj
    injection e1 with e1
    subst e1
    rw [addr_add, Nat.zero_add] at hc
    rw [World.cell?_setCell_other]
    · exact hc
    · intro e2
      injection e2 with _ e2
      exact e e2
theorem OwnN.set {w : World} {g n : Nat} {t : List Int} (h : OwnN w g n t) {k : Nat} (hk : k < n) (v : Int) : OwnN (w.setCell ⟨g, k, none⟩ (.int .i64 v)) g n (t.set k v) := by
  obtain ⟨cs, ty, hb⟩ := h.blk
  exact ⟨h.nums.set hk v, _, ty, heap_set hb _⟩
theorem OwnN.free {w : World} {g n : Nat} {t : List Int} (h : OwnN w g n t) (i : Nat) : w.frozen? ⟨g, i, none⟩ = false := by
  obtain ⟨cs, ty, hb⟩ := h.blk
  exact frozen_of hb
theorem OwnN.cell {w : World} {g n : Nat} {t : List Int} (h : OwnN w g n t) {k : Nat} {x : Int} (hk : t[k]? = some x) : w.cell? ⟨g, k, none⟩ = some (.int .i64 x) := by
  obtain ⟨ad, e1, hc⟩ := h.nums.2 k x hk
  injection e1 with e1
  subst e1
  rw [addr_add, Nat.zero_add] at hc
  exact hc
theorem OwnN.any {w : World} {g n : Nat} {t : List Int} (h : OwnN w g n t) {k : Nat} (hk : k < n) : ∃ x, t[k]? = some x ∧ w.cell? ⟨g, k, none⟩ = some (.int .i64 x) := by
  have hl := h.nums.1
  exact ⟨_, List.getElem?_eq_getElem (by omega), h.cell (List.getElem?_eq_getElem (by omega))⟩
theorem OwnN.kept {S : Nat → Prop} {w w' : World} {g n : Nat} {t : List Int} (h : OwnN w g n t) (hk : Kept S w w') (hs : ¬ S g) : OwnN w' g n t := by
  obtain ⟨cs, ty, hb⟩ := h.blk
  exact ⟨h.nums.kept hk (fun a e => by injection e with e; subst e; exact hs), cs, ty, (hk.block g (heap_lt hb) hs).trans hb⟩
theorem repl_get {n j : Nat} {x : Int} (h : (List.replicate n (0 : Int))[j]? = some x) : j < n ∧ x = 0 := by
  rw [List.getElem?_replicate] at h
  by_cases hj : j < n
  · rw [if_pos hj] at h
    exact ⟨hj, (Option.some.inj h).symm⟩
  · rw [if_neg hj] at h
    exact absurd h (by simp)
/-- So many numbers, made anew. -/
theorem make_ints (n : Nat) (w : World) (hn : n ≤ 100000) : ∃ w', (Instr.makeSlice 37 (.int .i64 n) (.int .i64 n)).run Tryz.prog w = .ok (.slice (some ⟨w.heap.size, 0, none⟩) n n) w' ∧ Kept (fun _ => False) w w' ∧ w'.heap.size = w.heap.size + 1 ∧
    OwnN w' w.heap.size n (List.replicate n 0) := by
  obtain ⟨i0, hi, hz0, hz1, hz2⟩ := info_parts info_int
  have hr := run_make (P := Tryz.prog) w 37 3 i0 _ Tryz.underlying37 hi hz0 .i64 .i64 n n (by omega) (by omega) (by rw [hz2]; omega) (by omega)
  rw [hz1, Nat.mul_one, Int.toNat_natCast] at hr
  refine ⟨_, hr, (Kept.refl _ w).alloc _, by simp, ⟨by simp, fun j x hj => ⟨_, rfl, ?_⟩⟩, _, _, heap_alloc_new w _⟩
  rw [addr_add, cell_of_row _ _ _ _ _ _ (heap_alloc_new w _)]
  obtain ⟨h, rfl⟩ := repl_get hj
  simp [madeCells, Value.cells, h, Nat.mod_one]
/-- What is owned is kept. -/
theorem ownsRow_kept {S : Nat → Prop} {w w' : World} {B : Nat} {e : TypeId} {sz n : Nat} {v : Value} {xs : List Value} (h : w.ownsRow B e sz v n xs) (hk : Kept S w w') (hs : ∀ g, v.ownBlock = some g → ¬ S g) : w'.ownsRow B e sz v n xs := by
  refine ⟨h.1, ?_⟩
  rcases h.2 with hn | ⟨g, cap, cur, rfl, hb, hgg, rest⟩
  · exact .inl hn
  · exact .inr ⟨g, cap, cur, rfl, hb, (hk.block g (Array.getElem?_eq_some_iff.1 hgg).1 (hs g rfl)).trans hgg, rest⟩
/-- One less. -/
theorem ownsRow_pop {w : World} {B m c : Nat} {e : TypeId} {A : Option Addr} {xs : List Value} {x : Value} (h : w.ownsRow B e 1 (.slice A (m + 1) c) (m + 1) (xs ++ [x])) : w.ownsRow B e 1 (.slice A m c) m xs := by
  have h1 := h.1
  simp at h1
  refine ⟨by simpa using h1, ?_⟩
  rcases h.2 with ⟨_, hn⟩ | ⟨g, cap, cur, e1, hb, hgg, hnc, hcm, hcs, ht⟩
  · omega
  · injection e1 with e1 e2 e3
    subst e1 e3
    refine .inr ⟨g, c, cur, rfl, hb, hgg, by omega, hcm, hcs, ?_⟩
    have := congrArg (List.take m) ht
    rw [List.take_take, show min m ((m + 1) * 1) = m by omega, List.take_append_of_le_length (by omega), List.take_of_length_le (l := xs) (by omega)] at this
    rw [Nat.mul_one]
    exact this
def upd {α : Type} (f : Nat → α) (k : Nat) (v : α) : Nat → α := fun j => if j = k then v else f j
theorem upd_same {α : Type} (f : Nat → α) (k : Nat) (v : α) : upd f k v k = v := by simp [upd]
theorem upd_other {α : Type} (f : Nat → α) {k j : Nat} (v : α) (h : j ≠ k) : upd f k v j = f j := by simp [upd, h]
/-- Three stacks of one's own, in a block. -/
structure Stk3 (w : World) (B ob : Nat) (X : Nat → List Int) (s : Nat → Value) : Prop where
  blk : ∃ (cs : Array Value) (ty : TypeId), w.heap[ob]? = some (.cells cs ty (0, 0))
  cell : ∀ k, k < 3 → w.cell? ⟨ob, k, none⟩ = some (s k)
  own : ∀ k, k < 3 → w.ownsRow B 3 1 (s k) (X k).length ((X k).map (Value.int .i64))
  apart : ∀ a b, a < 3 → b < 3 → a ≠ b → (s a).ownBlock = none ∨ (s a).ownBlock ≠ (s b).ownBlock
  lt : ob < B
theorem Stk3.free {w : World} {B ob : Nat} {X : Nat → List Int} {s : Nat → Value} (h : Stk3 w B ob X s) (i : Nat) : w.frozen? ⟨ob, i, none⟩ = false := by
  obtain ⟨cs, ty, hb⟩ := h.blk
  exact frozen_of hb
theorem Stk3.kept {S : Nat → Prop} {w w' : World} {B ob : Nat} {X : Nat → List Int} {s : Nat → Value} (h : Stk3 w B ob X s) (hk : Kept S w w') (hs : ∀ b, S b → b < B ∧ b ≠ ob) : Stk3 w' B ob X s := by
  obtain ⟨cs, ty, hb⟩ := h.blk
  have ho : ¬ S ob := fun e => (hs ob e).2 rfl
  exact ⟨⟨cs, ty, (hk.block ob (heap_lt hb) ho).trans hb⟩, fun k hk3 => cell_kept hk (h.cell k hk3) ho, fun k hk3 => ownsRow_kept (h.own k hk3) hk (fun g hg e => by have := ((h.own k hk3).lt g hg).1; have := (hs g e).1; omega), h.apart, h.lt⟩
theorem Stk3.congr {w : World} {B ob : Nat} {X Y : Nat → List Int} {s : Nat → Value} (h : Stk3 w B ob X s) (e : ∀ k, k < 3 → X k = Y k) : Stk3 w B ob Y s :=
  ⟨h.blk, h.cell, fun k hk => by rw [← e k hk]; exact h.own k hk, h.apart, h.lt⟩
theorem Stk3.form {w : World} {B ob : Nat} {X : Nat → List Int} {s : Nat → Value} (h : Stk3 w B ob X s) {k : Nat} (hk : k < 3) : ∃ A c, s k = .slice A (X k).length c ∧ (X k).length ≤ c ∧ (0 < (X k).length → ∃ g, A = some ⟨g, 0, none⟩ ∧ ∀ j x, (X k)[j]? = some x → w.cell? ⟨g, j, none⟩ = some (.int .i64 x)) := by
  have ho := h.own k hk
  rcases ho.2 with ⟨e, hn⟩ | ⟨g, cap, cur, e, hb, hgg, hnc, hcm, hcs, ht⟩
  · exact ⟨none, 0, by rw [e, hn], by omega, fun h => by omega⟩
  · refine ⟨_, cap, e, hnc, fun _ => ⟨g, rfl, fun j x hx => ?_⟩⟩
    have := ho.cells (g := g) (by rw [e]; rfl) j (.int .i64 x) (by rw [List.getElem?_map, hx]; rfl)
    rwa [addr_add, Nat.zero_add] at this
theorem Stk3.pop {w : World} {B ob : Nat} {X : Nat → List Int} {s : Nat → Value} (h : Stk3 w B ob X s) {k : Nat} (hk : k < 3) {A : Option Addr} {m c : Nat} {ys : List Int} {x : Int} (hs : s k = .slice A (m + 1) c) (hx : X k = ys ++ [x]) (hm : ys.length = m) :
    Stk3 (w.setCell ⟨ob, k, none⟩ (.slice A m c)) B ob (upd X k ys) (upd s k (.slice A m c)) := by
  have hkp : Kept (fun b => b = ob) w (w.setCell ⟨ob, k, none⟩ (.slice A m c)) := (Kept.refl (fun b => b = ob) w).setCell (p := ⟨ob, k, none⟩) rfl _
  have hob : ∀ j, j < 3 → ∀ g, (s j).ownBlock = some g → ¬ (g = ob) := fun j hj g hg e => by have := ((h.own j hj).lt g hg).1; have := h.lt; omega
  obtain ⟨cs, ty, hb⟩ := h.blk
  have hbk : (Value.slice A m c).ownBlock = (s k).ownBlock := by rw [hs]; cases A <;> rfl
  refine ⟨⟨_, ty, heap_set hb _⟩, fun j hj => ?_, fun j hj => ?_, fun a b ha hb' hab => ?_, h.lt⟩
  · by_cases e : j = k
    · subst e; rw [upd_same]; exact World.cell?_setCell_same _ _ _ (h.cell j hj)
    · rw [upd_other _ _ e, World.cell?_setCell_other]
      · exact h.cell j hj
      · intro e2; injection e2 with _ e2; exact e e2.symm
  · by_cases e : j = k
    · subst e
      rw [upd_same, upd_same, hm]
      have ho := h.own j hj
      rw [hs, hx, List.map_append, List.length_append, hm] at ho
      exact ownsRow_kept (ownsRow_pop ho) hkp (fun g hg => hob j hj g (by rw [← hbk]; exact hg))
    · rw [upd_other _ _ e, upd_other _ _ e]
      exact ownsRow_kept (h.own j hj) hkp (hob j hj)
  · by_cases e1 : a = k
    · subst e1
      rw [upd_same, upd_other _ _ (fun e => hab e.symm), hbk]
      exact h.apart a b ha hb' hab
    · rw [upd_other _ _ e1]
      by_cases e2 : b = k
      · subst e2; rw [upd_same, hbk]; exact h.apart a b ha hb' hab
      · rw [upd_other _ _ e2]; exact h.apart a b ha hb' hab
/-- Behind an append to one of them, ahead of the store. -/
theorem Stk3.mid {w w1 : World} {B ob : Nat} {X : Nat → List Int} {s : Nat → Value} {o : Obj} (h : Stk3 w B ob X s) {k : Nat} (hk : k < 3) (hg : (w.alloc o).grownBy w1 (s k).ownBlock) : w1.cell? ⟨ob, k, none⟩ = some (s k) ∧ w1.frozen? ⟨ob, k, none⟩ = false := by
  obtain ⟨cs, ty, hb⟩ := h.blk
  have hlt := heap_lt hb
  have hne : some ob ≠ (s k).ownBlock := fun e => by have := ((h.own k hk).lt ob e.symm).1; have := h.lt; omega
  have hbb : w1.heap[ob]? = w.heap[ob]? := (hg.block ob (by simp; omega) hne).trans (heap_alloc_old w o hlt)
  exact ⟨(World.cell?_of_block hbb).trans (h.cell k hk), frozen_of (hbb.trans hb)⟩
theorem Stk3.push {w w1 : World} {B ob : Nat} {X : Nat → List Int} {s : Nat → Value} {o : Obj} (h : Stk3 w B ob X s) {k : Nat} (hk : k < 3) {x : Int} {v : Value} (hg : (w.alloc o).grownBy w1 (s k).ownBlock)
    (hown : w1.ownsRow B 3 1 v ((X k).length + 1) ((X k).map (Value.int .i64) ++ [.int .i64 x])) (hat : v.ownBlock = (s k).ownBlock ∨ v.ownBlock = some (w.alloc o).heap.size) :
    Stk3 (w1.setCell ⟨ob, k, none⟩ v) B ob (upd X k (X k ++ [x])) (upd s k v) := by
  obtain ⟨cs, ty, hb⟩ := h.blk
  have hlt := heap_lt hb
  have hne : some ob ≠ (s k).ownBlock := fun e => by have := ((h.own k hk).lt ob e.symm).1; have := h.lt; omega
  have hbb : w1.heap[ob]? = w.heap[ob]? := (hg.block ob (by simp; omega) hne).trans (heap_alloc_old w o hlt)
  have hkp : Kept (fun b => b = ob) w1 (w1.setCell ⟨ob, k, none⟩ v) := (Kept.refl (fun b => b = ob) w1).setCell (p := ⟨ob, k, none⟩) rfl _
  have hcell : ∀ j, j < 3 → w1.cell? ⟨ob, j, none⟩ = some (s j) := fun j hj => (World.cell?_of_block hbb).trans (h.cell j hj)
  refine ⟨⟨_, ty, heap_set (hbb.trans hb) _⟩, fun j hj => ?_, fun j hj => ?_, fun a b ha hb' hab => ?_, h.lt⟩
  · by_cases e : j = k
    · subst e; rw [upd_same]; exact World.cell?_setCell_same _ _ _ (hcell j hj)
    · rw [upd_other _ _ e, World.cell?_setCell_other]
      · exact hcell j hj
      · intro e2; injection e2 with _ e2; exact e e2.symm
  · by_cases e : j = k
    · subst e
      rw [upd_same, upd_same, List.map_append, List.length_append]
      exact ownsRow_kept hown hkp (fun g hg' e => by have := (hown.lt g hg').1; have := h.lt; omega)
    · rw [upd_other _ _ e, upd_other _ _ e]
      have h1 := ((h.own j hj).alloc o).kept hg (by rcases h.apart j k hj hk e with h | h; exact .inl h; exact .inr h)
      exact ownsRow_kept h1 hkp (fun g hg' e => by have := (h1.lt g hg').1; have := h.lt; omega)
  · have hnew : ∀ j, j < 3 → j ≠ k → (s j).ownBlock = none ∨ (s j).ownBlock ≠ v.ownBlock := fun j hj hjk => by
      rcases hat with e | e
      · rw [e]; exact h.apart j k hj hk hjk
      · rw [e]
        cases hs : (s j).ownBlock with
        | none => exact .inl rfl
        | some g =>
          right
          intro e2
          injection e2 with e2
          have := ((h.own j hj).lt g hs).2
          simp at e2
          omega
    by_cases e1 : a = k
    · subst e1
      rw [upd_same, upd_other _ _ (fun e => hab e.symm)]
      rcases hnew b hb' (fun e => hab e.symm) with h1 | h1
      · rw [h1]
        cases hv : v.ownBlock with
        | none => exact .inl rfl
        | some g => right; intro e; cases e
      · exact .inr fun e => h1 e.symm
    · rw [upd_other _ _ e1]
      by_cases e2 : b = k
      · subst e2; rw [upd_same]; exact hnew a ha e1
      · rw [upd_other _ _ e2]; exact h.apart a b ha hb' hab
/-- The stacks as lists of numbers, the last one behind. -/
def XS (t : List Int) (i k : Nat) : List Int := (Rw.stk t k i).reverse.map fun (j : Nat) => (j : Int)
theorem XS_len (t : List Int) (i k : Nat) : (XS t i k).length ≤ i := by unfold XS; rw [List.length_map, List.length_reverse]; exact Rw.stk_len t k i
theorem XS_open {t : List Int} {i k : Nat} (hk : k < 3) (h : t[i]? = some (Rw.opn k)) : ∀ j, j < 3 → upd (XS t i) k (XS t i k ++ [(i : Int)]) j = XS t (i + 1) j := by
  intro j hj
  by_cases e : j = k
  · subst e
    rw [upd_same]
    unfold XS
    rw [Rw.stk_open h, List.reverse_cons, List.map_append]
    rfl
  · rw [upd_other _ _ e]
    unfold XS
    rw [Rw.stk_else (by rw [h]; intro e2; injection e2 with e2; exact e (Rw.opn_inj hk hj e2).symm) (by rw [h]; intro e2; injection e2 with e2; exact Rw.opn_sht k j e2)]
theorem XS_shut {t : List Int} {i k p : Nat} {l : List Nat} (hk : k < 3) (h : t[i]? = some (Rw.sht k)) (hs : Rw.stk t k i = p :: l) : XS t i k = (l.reverse.map fun (j : Nat) => (j : Int)) ++ [(p : Int)] ∧ ∀ j, j < 3 → upd (XS t i) k (l.reverse.map fun (j : Nat) => (j : Int)) j = XS t (i + 1) j := by
  refine ⟨?_, fun j hj => ?_⟩
  · unfold XS
    rw [hs, List.reverse_cons, List.map_append]
    rfl
  · by_cases e : j = k
    · subst e
      rw [upd_same]
      unfold XS
      rw [Rw.stk_shut h, hs]
      rfl
    · rw [upd_other _ _ e]
      unfold XS
      rw [Rw.stk_else (by rw [h]; intro e2; injection e2 with e2; exact Rw.opn_sht j k e2.symm) (by rw [h]; intro e2; injection e2 with e2; exact e (Rw.sht_inj hk hj e2).symm)]
theorem XS_empty {t : List Int} {i k : Nat} (hk : k < 3) (h : t[i]? = some (Rw.sht k)) (hs : Rw.stk t k i = []) : ∀ j, j < 3 → XS t i j = XS t (i + 1) j := by
  intro j hj
  by_cases e : j = k
  · subst e
    unfold XS
    rw [Rw.stk_shut h, hs]
    rfl
  · unfold XS
    rw [Rw.stk_else (by rw [h]; intro e2; injection e2 with e2; exact Rw.opn_sht j k e2.symm) (by rw [h]; intro e2; injection e2 with e2; exact e (Rw.sht_inj hk hj e2).symm)]
theorem XS_none {t : List Int} {i : Nat} {c : Int} (h : t[i]? = some c) (h1 : Rw.kdo c = none) (h2 : Rw.kds c = none) : ∀ j, j < 3 → XS t i j = XS t (i + 1) j := by
  intro j hj
  unfold XS
  rw [Rw.stk_else (by rw [h]; intro e2; injection e2 with e2; exact Rw.kdo_none h1 j e2) (by rw [h]; intro e2; injection e2 with e2; exact Rw.kds_none h2 j e2)]
end Go.Proofs.YtbofjefblhnkoaaGreatDoor
