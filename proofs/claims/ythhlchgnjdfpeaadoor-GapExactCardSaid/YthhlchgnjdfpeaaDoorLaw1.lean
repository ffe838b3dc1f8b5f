/-
  THE LAWS' OWN CALLS: how much a script weighs; that the buffer wakes.
-/
import Derived.Test.YthhlchgnjdfpeaaDoorLaw0
set_option linter.unusedVariables false
namespace Go.Proofs.YthhlchgnjdfpeaaDoor
open Go Go.RowKit

/-- An act, as it lies in memory. -/
structure ActV where
  ado : Int
  ai : Int
  an : Int
  la : Option Addr
  ln : Nat
  lc : Nat
  xs : List Int
/-- A slice of acts. -/
def Acts (w : World) (A : Option Addr) (n : Nat) (acts : List ActV) : Prop :=
  acts.length = n ∧ ∀ k a, acts[k]? = some a → ∃ ad, A = some ad ∧ w.cell? (ad.add (k * 4)) = some (.int .i64 a.ado) ∧ w.cell? ⟨(ad.add (k * 4)).block, (ad.add (k * 4)).off + 1, none⟩ = some (.int .i64 a.ai) ∧
    w.cell? ⟨(ad.add (k * 4)).block, (ad.add (k * 4)).off + 2, none⟩ = some (.int .i64 a.an) ∧ w.cell? ⟨(ad.add (k * 4)).block, (ad.add (k * 4)).off + 3, none⟩ = some (.slice a.la a.ln a.lc) ∧ Nums w a.la a.ln a.xs ∧ a.ln ≤ 17592186044416
theorem Acts.at_ {w : World} {A : Option Addr} {n : Nat} {acts : List ActV} (h : Acts w A n acts) {k : Nat} (hk : k < n) : ∃ ad a, A = some ad ∧ acts[k]? = some a ∧ w.cell? (ad.add (k * 4)) = some (.int .i64 a.ado) ∧ w.cell? ⟨(ad.add (k * 4)).block, (ad.add (k * 4)).off + 1, none⟩ = some (.int .i64 a.ai) ∧
    w.cell? ⟨(ad.add (k * 4)).block, (ad.add (k * 4)).off + 2, none⟩ = some (.int .i64 a.an) ∧ w.cell? ⟨(ad.add (k * 4)).block, (ad.add (k * 4)).off + 3, none⟩ = some (.slice a.la a.ln a.lc) ∧ Nums w a.la a.ln a.xs ∧ a.ln ≤ 17592186044416 := by
  have hl : k < acts.length := by rw [h.1]; exact hk
  obtain ⟨ad, e, r⟩ := h.2 k acts[k] (List.getElem?_eq_getElem hl)
  exact ⟨ad, acts[k], e, List.getElem?_eq_getElem hl, r⟩

theorem cell_kept {S : Nat → Prop} {w w' : World} {p : Addr} {v : Value} (hk : Kept S w w') (h : w.cell? p = some v) (hs : ¬ S p.block) : w'.cell? p = some v :=
  (World.cell?_of_block (hk.block _ (World.block_lt_of_cell? w _ h) hs)).trans h
theorem Acts.kept {w w' : World} {A : Option Addr} {n : Nat} {acts : List ActV} (h : Acts w A n acts) (hk : Kept (fun _ => False) w w') : Acts w' A n acts := by
  refine ⟨h.1, fun k a hka => ?_⟩
  obtain ⟨ad, e, h0, h1, h2, h3, h4, h5⟩ := h.2 k a hka
  exact ⟨ad, e, cell_kept hk h0 id, cell_kept hk h1 id, cell_kept hk h2 id, cell_kept hk h3 id, h4.kept hk (fun _ _ => id), h5⟩
/-- The block of a parameter of that type. -/
def PB (w : World) (pb : Nat) (room : Int) (S : ByteArray) (A : Option Addr) (n c : Nat) : Prop := w.heap[pb]? = some (.cells #[.int .i64 room, .string S, .slice A n c] 24 (0, 0))
section
variable {w : World} {pb n c : Nat} {room : Int} {S : ByteArray} {A : Option Addr}
theorem PB.c0 (h : PB w pb room S A n c) : w.cell? ⟨pb, 0, none⟩ = some (.int .i64 room) := by rw [cell_of_row w pb 0 _ _ _ h]; rfl
theorem PB.c1 (h : PB w pb room S A n c) : w.cell? ⟨pb, 1, none⟩ = some (.string S) := by rw [cell_of_row w pb 1 _ _ _ h]; rfl
theorem PB.c2 (h : PB w pb room S A n c) : w.cell? ⟨pb, 2, none⟩ = some (.slice A n c) := by rw [cell_of_row w pb 2 _ _ _ h]; rfl
theorem PB.kept {T : Nat → Prop} {w' : World} (h : PB w pb room S A n c) (hk : Kept T w w') (hs : ¬ T pb) : PB w' pb room S A n c := (hk.block pb (heap_lt h) hs).trans h
end

def HeavyRel (S : ByteArray) (acts : List ActV) (n : Nat) (m i : Value) : Prop :=
  ∃ (k : Nat) (q : Int), k ≤ n ∧ i = .int .i64 k ∧ m = .int .i64 q ∧ (S.size : Int) ≤ q ∧ q ≤ 200000000000000 ∧ ∀ j a, j < k → acts[j]? = some a → (a.ln : Int) ≤ q
def HeavyPost (S : ByteArray) (acts : List ActV) (w : World) (e : Ending) (w' : World) : Prop :=
  ∃ h : Bool, e = .returned (.bool h) ∧ Kept (fun _ => False) w w' ∧ (h = false → S.size ≤ 5000 ∧ ∀ a ∈ acts, a.ln ≤ 5000)
set_option maxRecDepth 100000 in
set_option maxHeartbeats 1000000 in
theorem heavy_any (room : Int) (S : ByteArray) (A : Option Addr) (n c : Nat) (acts : List ActV) (w : World) (hs : S.size ≤ 140737488351232) (hn : n ≤ 140737488351232) (ha : Acts w A n acts) :
    Calls Tryd.prog 5 #[.agg #[.int .i64 room, .string S, .slice A n c]] w (HeavyPost S acts w) := by
  have HA := Lib.hid ha
  clear ha
  go_enter Tryd.func5, Tryd.ntmps5
  go_wp2
  have HA1 : Hid (Acts (w.alloc (.cells #[.int .i64 room, .string S, .slice A n c] 24)) A n acts) := HA.out.kept ((Kept.refl _ w).alloc _)
  have HP : Hid (PB (w.alloc (.cells #[.int .i64 room, .string S, .slice A n c] 24)) w.heap.size room S A n c) := heap_alloc_new w _
  have HK : Kept (fun _ => False) w (w.alloc (.cells #[.int .i64 room, .string S, .slice A n c] 24)) := (Kept.refl _ w).alloc _
  clear HA
  generalize w.alloc (.cells #[.int .i64 room, .string S, .slice A n c] 24) = W1 at HA1 HP HK ⊢
  generalize w.heap.size = pb at HP ⊢
  have p2 := HP.out.c2
  go_loop [3, 4] (fun m i => HeavyRel S acts n m i) (fun _ i => n - (intOf i).toNat)
  case atStart => exact ⟨0, S.size, Nat.zero_le _, rfl, rfl, Int.le_refl _, by omega, fun j a hj => by omega⟩
  case round =>
    obtain ⟨k, q, hk, rfl, rfl, h1, h2, h3⟩ := hrel
    have H3 := Lib.hid h3
    clear h3
    by_cases hlt : k < n
    · obtain ⟨ad, a, rfl, hka, _, _, _, ha3, _, ha5⟩ := HA1.out.at_ hlt
      have HKA := Lib.hid hka
      clear hka
      obtain ⟨ado, ai, an, la, ln, lc, xs⟩ := a
      simp only at ha3 ha5
      by_cases hq : q < 1048576
      · have bq : decide (q < 1048576) = true := by simp; omega
        have bq2 : q < 1048576 := hq
        go_wp2
        go_round
        case rel => exact ⟨k + 1, q + 1 + ln, by omega, by go_num, by go_num, by omega, by omega, fun j b hj hb => by
          by_cases hjk : j < k
          · have := H3.out j b hjk hb
            omega
          · obtain rfl : j = k := by omega
            rw [HKA.out] at hb
            injection hb with hb
            subst hb
            show (ln : Int) ≤ _
            omega⟩
        case measure => simp [intOf]; omega
      · have bq : decide (q < 1048576) = false := by simp; omega
        have bq2 : ¬ q < 1048576 := hq
        have bq3 : decide (5000 < q) = true := by simp; omega
        go_wp2
        go_ret
        exact ⟨true, rfl, HK, fun h => by cases h⟩
    · obtain rfl : k = n := by omega
      by_cases hq : q ≤ 5000
      · have bq3 : decide (5000 < q) = false := by simp; omega
        go_wp2
        go_ret
        refine ⟨false, rfl, HK, fun _ => ⟨by omega, fun a ha => ?_⟩⟩
        obtain ⟨j, hj, rfl⟩ := List.getElem_of_mem ha
        have := H3.out j _ (by have := HA1.out.1; omega) (List.getElem?_eq_getElem hj)
        omega
      · have bq3 : decide (5000 < q) = true := by simp; omega
        go_wp2
        go_ret
        exact ⟨true, rfl, HK, fun h => by cases h⟩

theorem Kept.fresh {S : Nat → Prop} {w w1 w2 : World} (h1 : Kept (fun _ => False) w w1) (h2 : Kept S w1 w2) (hS : ∀ k, k < w.heap.size → ¬ S k) : Kept (fun _ => False) w w2 :=
  ⟨h2.os.trans h1.os, h2.tape.trans h1.tape, h2.output.trans h1.output, Nat.le_trans h1.size h2.size, fun k hk _ => (h2.block k (Nat.lt_of_lt_of_le hk h1.size) (hS k hk)).trans (h1.block k hk id)⟩
theorem buf1 (w : World) (x : Int) : Nums (w.alloc (.cells #[.int .i64 x] 3)) (some ⟨w.heap.size, 0, none⟩) 1 [x] := by
  refine ⟨rfl, fun j y hj => ⟨_, rfl, ?_⟩⟩
  rw [addr_add, cell_of_row _ _ _ _ _ _ (heap_alloc_new w _)]
  match j, hj with
  | 0, hj => simp at hj; subst hj; rfl
  | j + 1, hj => simp at hj
theorem buf3 (w : World) (x y z : Int) : Nums (w.alloc (.cells #[.int .i64 x, .int .i64 y, .int .i64 z] 3)) (some ⟨w.heap.size, 0, none⟩) 3 [x, y, z] := by
  refine ⟨rfl, fun j v hj => ⟨_, rfl, ?_⟩⟩
  rw [addr_add, cell_of_row _ _ _ _ _ _ (heap_alloc_new w _)]
  match j, hj with
  | 0, hj => simp at hj; subst hj; rfl
  | 1, hj => simp at hj; subst hj; rfl
  | 2, hj => simp at hj; subst hj; rfl
  | j + 3, hj => simp at hj
theorem axb : runesBytes [97, 120, 98] = ⟨#[97, 120, 98]⟩ := by kernel_rfl
theorem ab : Utf.runes [97, 98] = [97, 98] := by decide
set_option maxHeartbeats 1000000 in
theorem wakes_any (w : World) (hT : Tabs w) : Calls Tryd.prog 23 #[] w fun e w' => e = .returned (.bool true) ∧ Kept (fun _ => False) w w' := by
  have cN := new_yes ⟨#[97, 98]⟩ 5 w (by decide) hT (by decide) (by rw [show (⟨#[97, 98]⟩ : ByteArray).data.toList = [97, 98] from rfl, ab]; intro r hr; simp at hr; unfold May; omega) (by decide) (by rw [show (⟨#[97, 98]⟩ : ByteArray).data.toList = [97, 98] from rfl, ab]; decide)
  rw [show (⟨#[97, 98]⟩ : ByteArray).data.toList = [97, 98] from rfl, ab] at cN
  clear hT
  go_enter Tryd.func23, Tryd.ntmps23
  go_wp2_with (go_at_call 6; refine cN.mono ?_; rintro e w1 ⟨hk1, rb, cb, n, c, zs, hrb, hcb, rfl, hg⟩)
  clear cN
  have HG := Lib.hid hg
  have HK1 := Lib.hid hk1
  clear hg hk1
  refine (num_any _ _).mono ?_
  rintro e w' ⟨rfl, rfl⟩
  go_wp2_with fail
  have hl1 := heap_lt HG.out.r
  have hl2 := heap_lt HG.out.b
  have HG2 := Lib.hid (HG.out.kept (((Kept.refl (fun _ => False) w').alloc (.cells #[.int .i64 120] 3))) id id)
  have cI := insert_yes HG2.out 1 (some ⟨w'.heap.size, 0, none⟩) 1 1 [120] (by decide) (buf1 w' 120) (by intro x hx; simp at hx; subst hx; unfold May; omega) (by decide) (by decide) (by intro ad e; injection e with e; subst e; constructor <;> (show w'.heap.size ≠ _; omega))
  have HK2 := Lib.hid (((Kept.refl (fun _ => False) w').alloc (.cells #[.int .i64 120] 3)))
  clear hl1 hl2 HG
  refine cI.mono ?_
  rintro e w3 ⟨rfl, hk3, cb', n', c', high', zs', hcb', hg'⟩
  have HK3 := Lib.hid hk3
  have HG3 := Lib.hid hg'
  clear cI hk3 hg' HG2
  go_wp2_with fail
  refine (num_any _ _).mono ?_
  rintro e w4 ⟨rfl, rfl⟩
  go_wp2_with fail
  refine (text_any HG3.out).mono ?_
  rintro e w5 ⟨rfl, q, rfl⟩
  rw [show List.take 1 [97, 98] ++ [120] ++ List.drop 1 [97, 98] = ([97, 120, 98] : List Int) from rfl, axb]
  go_wp2_with fail
  refine (gap_any (HG3.out.drewN q)).mono ?_
  rintro e w5 ⟨rfl, rfl⟩
  go_wp2_with fail
  go_ret
  exact ⟨rfl, ((HK1.out.trans HK2.out).fresh HK3.out (fun k hk => by rintro (h | h) <;> omega)).drewN _⟩
end Go.Proofs.YthhlchgnjdfpeaaDoor
