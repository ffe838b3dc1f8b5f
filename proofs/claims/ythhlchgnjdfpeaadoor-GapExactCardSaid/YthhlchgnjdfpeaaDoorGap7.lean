/-
  THE GAP BUFFER: runes are put there.
-/
import Derived.Test.YthhlchgnjdfpeaaDoorGap6
set_option linter.unusedVariables false
namespace Go.Proofs.YthhlchgnjdfpeaaDoor
open Go Go.RowKit
theorem Nums.kept {S : Nat → Prop} {w w' : World} {A : Option Addr} {m : Nat} {xs : List Int} (h : Nums w A m xs) (hk : Kept S w w') (hs : ∀ ad, A = some ad → ¬ S ad.block) : Nums w' A m xs := by
  refine ⟨h.1, fun j x hx => ?_⟩
  obtain ⟨ad, e, hc⟩ := h.2 j x hx
  have hb : (ad.add j).block = ad.block := by unfold Addr.add; split <;> rfl
  refine ⟨ad, e, (World.cell?_of_block (hk.block _ ?_ ?_)).trans hc⟩
  · exact World.block_lt_of_cell? w _ hc
  · rw [hb]; exact hs ad e

/-- Behind k runes that were put there. -/
def InsRel (w : World) (rb room cb cb5 n5 c5 high5 i m : Nat) (A : Option Addr) (M : Int) (xs t : List Int) (v : Value) (wr : World) : Prop :=
  ∃ k : Nat, k ≤ m ∧ v = .int .i64 k ∧ Nums wr A m xs ∧ (∃ zs', GS wr rb room cb5 n5 c5 (i + k) high5 M zs' (t.take i ++ xs.take k ++ t.drop i)) ∧ Kept (fun k => k = rb ∨ k = cb ∨ k = cb5) w wr
theorem text_put (t xs : List Int) (i k : Nat) (x : Int) (hi : i ≤ t.length) (hx : xs[k]? = some x) :
    (t.take i ++ xs.take k ++ t.drop i).take (i + k) ++ x :: (t.take i ++ xs.take k ++ t.drop i).drop (i + k) = t.take i ++ xs.take (k + 1) ++ t.drop i := by
  have hk : k < xs.length := by
    rcases Nat.lt_or_ge k xs.length with h | h
    · exact h
    · rw [List.getElem?_eq_none h] at hx; cases hx
  have h1 : (t.take i ++ xs.take k).length = i + k := by simp; omega
  rw [List.take_append_of_le_length (by omega), List.drop_append_of_le_length (by omega), List.take_of_length_le (by omega), List.drop_eq_nil_of_le (by omega), List.take_succ_eq_append_getElem hk]
  rw [List.getElem?_eq_getElem hk] at hx
  injection hx with hx
  simp [hx]

section
variable {w : World} {rb room cb n c low high : Nat} {moves : Int} {zs t : List Int}
set_option maxHeartbeats 1000000 in
theorem insert_yes (h : GS w rb room cb n c low high moves zs t) (i : Nat) (A : Option Addr) (m cc : Nat) (xs : List Int) (hi : i ≤ t.length) (hx : Nums w A m xs) (hgood : ∀ x ∈ xs, May x) (hfit : t.length + m ≤ room) (hm : moves ≤ 1000000000000000000)
    (hA : ∀ ad, A = some ad → ad.block ≠ rb ∧ ad.block ≠ cb) :
    Calls Tryd.prog 16 #[.pointer (some ⟨rb, 0, none⟩), .int .i64 i, .slice A m cc] w fun e w' => e = .returned (.int .i64 0) ∧ Kept (fun k => k = rb ∨ k = cb) w w' ∧
      ∃ cb' n' c' high' zs', (cb' = cb ∨ w.heap.size ≤ cb') ∧ GS w' rb room cb' n' c' (i + m) high' (moves + (((low : Int) - (i : Int)).natAbs : Nat)) zs' (t.take i ++ xs ++ t.drop i) := by
  have HG := Lib.hid h
  have hlen := h.len
  have hnr := h.nr
  have hrr := h.rr
  have hlt : t.length ≤ 10000 := by omega
  have b0 : decide ((i : Int) < 0) = false := by simp
  have b1 : decide (t.length < i) = false := by simp; omega
  clear h hlen hnr
  go_enter Tryd.func16, Tryd.ntmps16
  go_wp2_with (go_at_call 20; refine (G_len HG.out).mono ?_; rintro e w' ⟨rfl, k, rfl⟩)
  have HX : Hid (Nums (w.drewN k) A m xs) := hx
  have HB := Lib.hid hgood
  have HA := Lib.hid hA
  have HG2 : Hid (GS (w.drewN k) rb room cb n c low high moves zs t) := HG.out.drewN k
  have hq : ∃ q, w.drewN k = w.drewN q := ⟨_, rfl⟩
  clear hx HG hgood hA
  generalize w.drewN k = w2 at HX HG2 hq ⊢
  have HQ := Lib.hid hq
  clear hq
  go_loop [21] (fun v => ∃ k : Nat, k ≤ m ∧ v = .int .i64 k) (fun v => m - (intOf v).toNat)
  case atStart => exact ⟨0, Nat.zero_le _, rfl⟩
  case round =>
    obtain ⟨k, hk, rfl⟩ := hrel
    by_cases hkm : k < m
    · obtain ⟨ad, x, rfl, hxk, hc⟩ := HX.out.cell hkm
      have hg := HB.out x (List.mem_of_getElem? hxk)
      clear hxk
      go_wp2_with (go_at_call 25; refine (may_yes x hg _).mono ?_; rintro e w' ⟨rfl, rfl⟩)
      go_round
      case rel => exact ⟨k + 1, by omega, by go_num⟩
      case measure => simp [intOf]; omega
    · go_wp2_with fail
      have c0 := HG2.out.r.c0
      have b2 : decide ((room : Int) - (t.length : Int) < (m : Int)) = false := by simp; omega
      go_quiet ((go_at_call 20; exact Calls.quiet_of (G_len (HG2.out.drewN _))))
      go_wp2_with fail
      have HX3 : Hid (Nums (w2.drewN nq) A m xs) := HX.out
      have HG3 : Hid (GS (w2.drewN nq) rb room cb n c low high moves zs t) := HG2.out.drewN nq
      have HK3 : Kept (fun k => k = rb ∨ k = cb) w (w2.drewN nq) := by
        obtain ⟨q, hq⟩ := HQ.out
        rw [hq]
        exact ((Kept.refl _ w).drewN _).drewN _
      clear c0 HX HG2 HQ
      generalize w2.drewN nq = w3 at HX3 HG3 HK3 ⊢
      refine (G_carry HG3.out i hi hm).mono ?_
      rintro e w4 ⟨rfl, hk4, high4, zs4, he4, hg4⟩
      have HX4 := Lib.hid (HX3.out.kept hk4 (fun ad e => by have := HA.out ad e; rintro (h | h) <;> omega))
      have HG4 := Lib.hid hg4
      have HK4 := HK3.trans hk4
      clear HX3 HG3 HK3 hk4 he4 hg4
      go_wp2_with fail
      refine (G_widen HG4.out m (by omega)).mono ?_
      rintro e w5 ⟨rfl, hk5, cb5, n5, c5, high5, zs5, hcb5, hwd, hg5⟩
      have HX5 := Lib.hid (HX4.out.kept hk5 (fun ad e => (HA.out ad e).1))
      have HG5 := Lib.hid hg5
      have HK5 := HK4.trans (hk5.mono (fun _ _ h => .inl h))
      have HC5 : Hid (cb5 = cb ∨ w.heap.size ≤ cb5) := hcb5.imp id (fun h => Nat.le_trans HK4.size h)
      have HA5 : Hid (∀ ad, A = some ad → 0 < m → ad.block ≠ cb5) := by
        intro ad e h0
        rcases hcb5 with rfl | h
        · exact (HA.out ad e).2
        · obtain ⟨ad', x, e', _, hc⟩ := HX4.out.cell h0
          have : ad' = ad := Option.some.inj (e'.symm.trans e)
          subst this
          have hb : (ad'.add 0).block = ad'.block := by unfold Addr.add; split <;> rfl
          have := World.block_lt_of_cell? w4 _ hc
          rw [hb] at this
          omega
      clear HX4 HG4 HK4 hk5 hg5 hcb5
      go_wp2_with fail
      have hnm : (0 : Int) ≤ m := by omega
      have hcb5n : rb ≠ cb5 := HG5.out.r.ne HG5.out.b
      go_loopw [48] (fun v wr => InsRel w rb room cb cb5 n5 c5 high5 i m A (moves + (((low : Int) - (i : Int)).natAbs : Nat)) xs t v wr) (fun v _ => m - (intOf v).toNat)
      case atStart => exact ⟨0, Nat.zero_le _, rfl, HX5.out, ⟨zs5, by simpa using HG5.out⟩, HK5.mono (fun _ _ h => h.elim .inl (fun h => .inr (.inl h)))⟩
      case round =>
        obtain ⟨k2, hk2, rfl, hX, ⟨zs6, hG⟩, hKr⟩ := hrel
        have HG6 := Lib.hid hG
        have HX6 := Lib.hid hX
        clear hG hX HX5 HG5 HK5
        by_cases hlt2 : k2 < m
        · obtain ⟨ad, x, rfl, hxk, hc⟩ := HX6.out.cell hlt2
          obtain ⟨hx1, hx2, _, _⟩ := HB.out x (List.mem_of_getElem? hxk)
          have HXK := Lib.hid hxk
          have hrr6 := HG6.out.rr
          have hnr6 := HG6.out.nr
          have hnn6 := HG6.out.hn
          have x5 : IntKind.i32.wrap x = x := IntWalk.i32_in _ (by omega)
          clear hxk
          go_wp2
          refine wp_region_still_tail 11 (by kernel_rfl) (by kernel_rfl) ?_
          simp only [List.take_succ_cons, List.take_zero, List.drop_succ_cons, List.drop_zero]
          have HG7 : Hid (GS wr.drew rb room cb5 n5 c5 (i + k2) high5 (moves + (((low : Int) - (i : Int)).natAbs : Nat)) zs6 (t.take i ++ xs.take k2 ++ t.drop i)) := HG6.out.drewN 1
          have HX7 : Hid (Nums wr.drew (some ad) m xs) := HX6.out
          have HK7 : Kept (fun k => k = rb ∨ k = cb ∨ k = cb5) w wr.drew := hKr.drew
          have d1 : wr.drew.cell? ⟨rb, 1, none⟩ = some (.slice (some ⟨cb5, 0, none⟩) n5 c5) := HG7.out.r.c1
          have d2 : wr.drew.cell? ⟨rb, 2, none⟩ = some (.int .i64 ((i : Int) + (k2 : Int))) := by
            have h := HG7.out.r.c2
            rw [Int.natCast_add] at h
            exact h
          have i1 : (i : Int) + (k2 : Int) < (n5 : Int) := by omega
          have i2 : 0 ≤ (i : Int) + (k2 : Int) := by omega
          have i3 : ((i : Int) + (k2 : Int)).toNat = i + k2 := by omega
          change wpStill _ _ wr.drew _ _ _
          generalize hw2 : wr.drew = wd at d1 d2 HG7 HX7 HK7 ⊢
          repeat still_step
          refine wpStill_nil ?_
          change wpList _ _ _ _ _ wr.drew
          rw [hw2]
          obtain ⟨z, hz⟩ : ∃ z, zs6[i + k2]? = some z := ⟨_, List.getElem?_eq_getElem (by have := HG7.out.z; have := HG7.out.nc; omega)⟩
          have d4 : wd.cell? ⟨cb5, i + k2, none⟩ = some (.int .i32 z) := HG7.out.b.cell hz
          have d5 : wd.frozen? ⟨cb5, i + k2, none⟩ = false := frozen_of HG7.out.b
          have d6 : wd.frozen? ⟨rb, 2, none⟩ = false := HG7.out.r.fr 2
          have d7 : ∀ u, (wd.setCell ⟨cb5, i + k2, none⟩ u).cell? ⟨rb, 2, none⟩ = some (.int .i64 ((i : Int) + (k2 : Int))) := fun u => by
            rw [World.cell?_of_block (Below.heap_setCell wd _ u rb hcb5n)]
            exact d2
          have HZ := Lib.hid hz
          clear hw2 hz
          go_wp2
          go_roundw
          case rel =>
            have HKs : Kept (fun k => k = rb ∨ k = cb ∨ k = cb5) wd ((wd.setCell ⟨cb5, i + k2, none⟩ (Value.int .i32 x)).setCell ⟨rb, 2, none⟩ (.int .i64 ((i : Int) + (k2 : Int) + 1))) :=
              ((Kept.refl _ wd).setCell (.inr (.inr rfl)) _).setCell (.inl rfl) _
            refine ⟨k2 + 1, by omega, by go_num, HX7.out.kept HKs (fun ad' e => ?_), ⟨zs6.set (i + k2) x, ⟨?_, ?_, ?_, ?_, HG7.out.hn, HG7.out.nc, HG7.out.nr, HG7.out.rr, HG7.out.m0, ?_⟩⟩, HK7.trans HKs⟩
            · have h1 := HA.out ad' e
              have h2 := HA5.out ad' e (by omega)
              rintro (h | h | h) <;> omega
            · unfold RB
              rw [heap_set ((heap_far hcb5n _).trans HG7.out.r) _, show ((i + (k2 + 1) : Nat) : Int) = (i : Int) + (k2 : Int) + 1 by omega]
              rfl
            · unfold CB
              rw [heap_far hcb5n.symm, heap_set HG7.out.b _]
              simp [List.map_set]
            · rw [List.length_set]
              exact HG7.out.z
            · omega
            · rw [← text_put t xs i k2 x hi HXK.out, ← Nat.add_assoc]
              exact tx_put zs6 n5 (i + k2) high5 x (by omega) HG7.out.hn (by rw [← HG7.out.z]; exact HG7.out.nc) _ HG7.out.t
          case measure => simp [intOf]; omega
        · obtain rfl : k2 = m := by omega
          go_wp2
          go_ret
          refine ⟨rfl, ?_, cb5, n5, c5, high5, zs6, HC5.out, ?_⟩
          · refine ⟨hKr.os, hKr.tape, hKr.output, hKr.size, fun j hj hn => hKr.block j hj ?_⟩
            rintro (h | h | h)
            · exact hn (.inl h)
            · exact hn (.inr h)
            · rcases HC5.out with h' | h'
              · exact hn (.inr (h.trans h'))
              · omega
          · have h := HG6.out
            rw [List.take_of_length_le (l := xs) (by rw [HX6.out.1]; exact Nat.le_refl _)] at h
            exact h
end
end Go.Proofs.YthhlchgnjdfpeaaDoor
