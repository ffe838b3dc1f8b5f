/-
  REGIONS: of rows; what an operator works on, said.
-/
import Derived.Test.YtbofjefblhnkoaaGreatDoorRgO
import Derived.Test.YtbofjefblhnkoaaGreatDoorRgP
import Derived.Test.YtbofjefblhnkoaaGreatDoorLfO
import Derived.Test.YtbofjefblhnkoaaGreatDoorObS
set_option linter.unusedVariables false
set_option maxRecDepth 100000
namespace Go.Proofs.YtbofjefblhnkoaaGreatDoor
open Go Go.RowKit Pk

namespace Rw
theorem dn_add (t : List Int) (x a : Nat) (hx : x ≤ t.length) : ∀ b, dn t x (a + b) = (dn t x a).bind fun y => dn t y b
  | 0 => by
    cases h : dn t x a with
    | none => rfl
    | some y =>
      have := dn_some t a x y hx h
      exact (dn_zero this.2.1).symm
  | b + 1 => by
    have e : a + (b + 1) = (a + b) + 1 := rfl
    rw [e, dn_snoc t (a + b) x hx, dn_add t x a hx b]
    cases h : dn t x a with
    | none => rfl
    | some y =>
      have := dn_some t a x y hx h
      exact (dn_snoc t b y this.1).symm
theorem stt_rows {t : List Int} {k p : Nat} (hk : k ≤ t.length) : stt t ((nl t k + p : Nat) : Int) = dn t k p := by
  unfold stt
  rw [if_pos (by omega), Int.toNat_natCast, dn_add t 0 (nl t k) (Nat.zero_le _) p, dn_nl t k hk]
  exact dn_beg t k hk p
theorem bt_fst {t : List Int} {k p x : Nat} (hk : k ≤ t.length) (hd : dn t k p = some x) : bt t k (fst t x) 2 = bt t k x 2 := by
  obtain ⟨h1, h2, h3⟩ := dn_some t p k x hk hd
  have f1 := fst_ge t x
  have f2 := fst_le t x h1
  rw [h2] at f1
  have fe : en t (fst t x) = en t x ∧ beg t (fst t x) = x := by
    by_cases h : fst t x < en t x
    · exact ⟨en_row h1 (by omega) h, (beg_row (by omega) h).trans h2⟩
    · have e : fst t x = en t x := by omega
      rw [e]
      exact ⟨en_en t x h1, (beg_en t x).trans h2⟩
  unfold bt
  rw [if_neg (by decide), if_neg (by decide), if_neg (by decide), if_neg (by decide)]
  by_cases hp : 0 < p
  · have h4 := h3 hp
    rw [show min k (fst t x) = k by omega, show min k x = k by omega, show max k (fst t x) = fst t x by omega, show max k x = x by omega, fe.1]
  · obtain rfl : p = 0 := by omega
    have hx : beg t k = x := by unfold dn at hd; simpa using hd
    have he : en t x = en t k := by rw [← hx, en_beg t k hk]
    have hb := beg_le t k
    rw [show min k x = x by omega, show max k x = k by omega]
    rcases Nat.le_total k (fst t x) with h | h
    · rw [show min k (fst t x) = k by omega, show max k (fst t x) = fst t x by omega, fe.1, he, h2, hx]
    · rw [show min k (fst t x) = fst t x by omega, show max k (fst t x) = k by omega, fe.2, h2]
/-- A range between two offsets, as three numbers. -/
def btI (p : Nat × Nat × Bool) : Int × Int × Bool := ((p.1 : Nat), (p.2.1 : Nat), p.2.2)
/-- The region of rows. -/
def rowsR (t : List Int) (k n : Nat) : Option (Int × Int × Bool) := (Rw.to t k 95 n).map fun a => btI (bt t k a 2)
theorem rowsR_is {t : List Int} {k n : Nat} (hk : k ≤ t.length) (h1 : 1 ≤ n) : rowsR t k n = (dn t k (n - 1)).map fun x => btI (bt t k x 2) := by
  have h : Rw.to t k 95 n = (dn t k (n - 1)).map (fst t) := by
    unfold Rw.to
    simp [show max n 1 = n by omega]
  unfold rowsR
  rw [h]
  cases hd : dn t k (n - 1) with
  | none => rfl
  | some x =>
    show some (btI (bt t k (fst t x) 2)) = some (btI (bt t k x 2))
    rw [bt_fst hk hd]
/-- What an operator works on, and what is sought then. -/
def ofM (t : List Int) (k m : Nat) (c2 c3 c4 c5 k1 k2 : Int) (M : List (List Int)) : Option ((Int × Int × Bool) × Int × Int) :=
  if c4 ≠ 0 then (pce t k c4 c3 (times m)).map fun r => (r, k1, k2)
  else if c3 = c2 then (rowsR t k (times m)).map fun r => (r, k1, k2)
  else (goM t k c3 c5 m k1 k2 M).map fun r => (btI (bt t k r.1.toNat r.2.1), r.2.2.1, r.2.2.2)
end Rw
/-- What is told of it. -/
def ofV (o : Option ((Int × Int × Bool) × Int × Int)) : Value := match o with
  | some (r, x, y) => .tuple #[rngV r.1 r.2.1 r.2.2, sekV x y, .int .i64 0]
  | none => .tuple #[rngV 0 0 false, sekV 0 0, .int .i64 6]
set_option maxHeartbeats 2000000 in
theorem prows_any (s : ByteArray) (k n : Nat) (w : World) (hT : Tabs w) (hM : Mx w) (hm : mayB s = true) (hk : k ≤ (rs s).length) (h1 : 1 ≤ n) (h2 : n ≤ 999) :
    Calls Tryz.prog 23 #[.string s, .int .i64 k, .int .i64 n] w fun e w' => e = .returned (ansR (Rw.rowsR (rs s) k n)) ∧ Kept (fun _ => False) w w' := by
  have hka : Kept (fun _ => False) w (w.alloc (rngO 0 0 false)) := (Kept.refl _ w).alloc _
  have HKA := Lib.hid hka
  have HG : Hid ((w.alloc (rngO 0 0 false)).heap[w.heap.size]? = some (rngO 0 0 false)) := heap_alloc_new w _
  have hl := rs_len s
  have hsz := mayB_size hm
  have hnl := Rw.nl_le (rs s) k
  have hpb : Rw.nl (rs s) k ≤ 4000 := by omega
  have cP := place_yes s k (w.alloc (rngO 0 0 false)) (hT.kept hka id id) hm hk
  have hstt : stt (rs s) ((Rw.nl (rs s) k : Int) + (n : Int) - 1) = Rw.dn (rs s) k (n - 1) := by
    rw [show (Rw.nl (rs s) k : Int) + (n : Int) - 1 = ((Rw.nl (rs s) k + (n - 1) : Nat) : Int) by omega]
    exact Rw.stt_rows hk
  have cO := fun W (hk' : Kept (fun _ => False) w W) => offset_yes s ((Rw.nl (rs s) k : Int) + (n : Int) - 1) W (hT.kept hk' id id) (hM.kept hk') hm
  simp only [hstt] at cO
  have cB := fun (x : Nat) (hx : x ≤ (rs s).length) W (hk' : Kept (fun _ => False) w W) => pbtw_yes s k x 2 W (hT.kept hk' id id) hm hk hx (by omega)
  rw [Rw.rowsR_is hk h1]
  clear hstt
  generalize Rw.nl (rs s) k = p0 at *
  generalize k - Rw.beg (rs s) k = p1 at *
  cases hd : Rw.dn (rs s) k (n - 1) with
  | none =>
    simp only [hd] at cO
    simp only [offV] at cO
    rw [Option.map_none]
    unfold ansR
    simp only
    clear hT hM hm hk hd hka cB
    go_enter Tryz.func23, Tryz.ntmps23
    go_wp2_with (first
      | (go_at_call 39; refine cP.mono ?_; rintro e w1 ⟨rfl, hk1⟩; have HX1 : Hid (Kept (fun _ => False) w1 (w1.alloc (.cells #[.int .i64 p0, .int .i64 p1] 24))) := (Kept.refl (fun _ => False) w1).alloc _; have HKB := Lib.hid (HKA.out.trans (hk1.trans HX1.out)); have HG1 := Lib.hid (((hk1.trans HX1.out).block _ (heap_lt HG.out) id).trans HG.out); clear hk1 cP)
      | (go_at_call 48; refine (cO _ HKB.out).mono ?_; rintro e w2 ⟨rfl, hk2⟩; have HK2 := Lib.hid (HKB.out.trans hk2); have h8 : w2.heap[w.heap.size]? = some (rngO 0 0 false) := (hk2.block _ (heap_lt HG1.out) id).trans HG1.out; have H8 := Lib.hid h8; obtain ⟨f0, f1, f2⟩ := rng_facts h8; obtain ⟨y0, y1, y2⟩ := rng_free h8; clear h8 hk2 cO))
    refine bodyPost_ret (res_rng2 rfl _ _ _ _ _ _ (0, 0) rfl (rng_three H8.out _ _ _)) rfl ⟨rfl, ?_⟩
    exact HK2.out.fresh (Kept.three (Kept.refl (fun q => q = w.heap.size) _) rfl _ _ _) (fun q hq (e : q = w.heap.size) => by omega)
  | some x =>
    simp only [hd] at cO
    simp only [offV] at cO
    have hx := (Rw.dn_some _ _ _ _ hk hd).1
    have cB := cB x hx
    unfold btR at cB
    obtain ⟨V, hV⟩ : ∃ V, Rw.bt (rs s) k x 2 = V := ⟨_, rfl⟩
    simp only [hV] at cB
    have HR : Hid (ansR ((some x).map fun x => Rw.btI (Rw.bt (rs s) k x 2)) = .tuple #[rngV (V.1 : Nat) (V.2.1 : Nat) V.2.2, .int .i64 0]) := by
      show _ = _
      simp only [Option.map_some, hV]
      rfl
    rw [HR.out]
    obtain ⟨lo, hi, ln⟩ := V
    simp only at cB ⊢
    clear hT hM hm hk hd hka HR hV
    go_enter Tryz.func23, Tryz.ntmps23
    go_wp2_with (first
      | (go_at_call 39; refine cP.mono ?_; rintro e w1 ⟨rfl, hk1⟩; have HX1 : Hid (Kept (fun _ => False) w1 (w1.alloc (.cells #[.int .i64 p0, .int .i64 p1] 24))) := (Kept.refl (fun _ => False) w1).alloc _; have HKB := Lib.hid (HKA.out.trans (hk1.trans HX1.out)); have HG1 := Lib.hid (((hk1.trans HX1.out).block _ (heap_lt HG.out) id).trans HG.out); clear hk1 cP)
      | (go_at_call 48; refine (cO _ HKB.out).mono ?_; rintro e w2 ⟨rfl, hk2⟩; have HK2 := Lib.hid (HKB.out.trans hk2); have HG2 := Lib.hid ((hk2.block _ (heap_lt HG1.out) id).trans HG1.out); clear hk2 cO)
      | (go_at_call 15; refine (cB _ HK2.out).mono ?_; rintro e w3 ⟨rfl, hk3⟩; have HK3 := Lib.hid (HK2.out.trans hk3); have h8 : w3.heap[w.heap.size]? = some (rngO 0 0 false) := (hk3.block _ (heap_lt HG2.out) id).trans HG2.out; have H8 := Lib.hid h8; obtain ⟨f0, f1, f2⟩ := rng_facts h8; obtain ⟨y0, y1, y2⟩ := rng_free h8; clear h8 hk3 cB))
    refine bodyPost_ret (res_rng2 rfl _ _ _ _ _ _ (0, 0) rfl (rng_three H8.out _ _ _)) rfl ⟨rfl, ?_⟩
    exact HK3.out.fresh (Kept.three (Kept.refl (fun q => q = w.heap.size) _) rfl _ _ _) (fun q hq (e : q = w.heap.size) => by omega)
end Go.Proofs.YtbofjefblhnkoaaGreatDoor
