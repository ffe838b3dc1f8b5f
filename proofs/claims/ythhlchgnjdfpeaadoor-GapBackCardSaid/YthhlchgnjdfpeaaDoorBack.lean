/-
  GapBack: its walk.
-/
import Derived.Test.YthhlchgnjdfpeaaDoorLaw1
import Derived.Deep.RegionHeld3
import Derived.Deep.DrawnRows
set_option linter.unusedVariables false
attribute [local go_sem ↓] Go.wp_at_zero Go.wp_at_succ
namespace Go.Proofs.YthhlchgnjdfpeaaDoor
open Go Go.RowKit

theorem aeb : runesBytes [97, 8364, 98] = ⟨#[97, 226, 130, 172, 98]⟩ := by kernel_rfl

/-- Behind so many places of the loop. -/
def BackRel (w0 : World) (rb pb room : Nat) (proom : Int) (S : ByteArray) (A : Option Addr) (n c : Nat) (R : List Int) (v : Value) (wr : World) : Prop :=
  ∃ k cb n' c' low high zs, ∃ M : Int, k ≤ R.length + 1 ∧ v = .int .i64 (k : Nat) ∧ M ≤ 100000 * k ∧ GS wr rb room cb n' c' low high M zs R ∧ Kept (fun _ => False) w0 wr ∧ PB wr pb proom S A n c ∧ pb < cb ∧ w0.heap.size ≤ cb

set_option maxRecDepth 100000 in
set_option maxHeartbeats 1000000 in
theorem back_any (room : Int) (S : ByteArray) (A : Option Addr) (n c : Nat) (acts : List ActV) (w : World) (hs : S.size ≤ 140737488351232) (hn : n ≤ 140737488351232) (ha : Acts w A n acts) (hT : Tabs w) :
    Calls Tryd.prog 4 #[.agg #[.int .i64 room, .string S, .slice A n c]] w fun e w' => e = .returned (.bool true) ∧ Kept (fun _ => False) w w' := by
  have HA := Lib.hid ha
  have HT := Lib.hid hT
  clear ha hT
  go_enter Tryd.func4, Tryd.ntmps4
  go_wp2_with fail
  have HA1 : Hid (Acts (w.alloc (.cells #[.int .i64 room, .string S, .slice A n c] 24)) A n acts) := HA.out.kept ((Kept.refl _ w).alloc _)
  have HP : Hid (PB (w.alloc (.cells #[.int .i64 room, .string S, .slice A n c] 24)) w.heap.size room S A n c) := heap_alloc_new w _
  have HK1 : Hid (Kept (fun _ => False) w (w.alloc (.cells #[.int .i64 room, .string S, .slice A n c] 24))) := (Kept.refl _ w).alloc _
  have hlt : w.heap.size < (w.alloc (.cells #[.int .i64 room, .string S, .slice A n c] 24)).heap.size := by simp
  generalize w.alloc (.cells #[.int .i64 room, .string S, .slice A n c] 24) = w1 at HA1 HP HK1 hlt ⊢
  generalize hpb : w.heap.size = pb at HP hlt ⊢
  have HPB := Lib.hid hpb
  clear hpb HA
  refine (heavy_any room S A n c acts w1 hs hn HA1.out).mono ?_
  rintro e w2 ⟨hv, rfl, hk2, hno⟩
  have HN := Lib.hid hno
  have HK2 := Lib.hid hk2
  have HP2 := Lib.hid (HP.out.kept hk2 id)
  have p1 := HP2.out.c1
  clear hno hk2 HA1 HP
  cases hv
  case true =>
    go_wp2
    go_ret
    exact ⟨rfl, HK1.out.trans HK2.out⟩
  obtain ⟨hS, _⟩ := HN.out rfl
  clear HN
  go_wp2_with fail
  have HT2 := Lib.hid (HT.out.kept (HK1.out.trans HK2.out) id id)
  refine (row_any S w2 (by omega) HT2.out).mono ?_
  rintro e w3 ⟨rfl, hk3⟩
  have HK3 := Lib.hid ((HK1.out.trans HK2.out).trans hk3)
  have HP3 := Lib.hid (HP2.out.kept hk3 id)
  have HT3 := Lib.hid (HT2.out.kept hk3 id id)
  clear p1 HK1 HK2 hk3 HP2 HT2
  have p1 := HP3.out.c1
  cases hrow : rowB S.data.toList
  case false =>
    go_wp2
    go_ret
    exact ⟨rfl, HK3.out⟩
  obtain ⟨hval, hmay⟩ := rowB_may hrow
  have HVal := Lib.hid hval
  have HMay := Lib.hid hmay
  have hRl := Utf.runes_length S.data.toList
  have hSl := Lib.size_eq S
  have hRS : (Utf.runes S.data.toList).length ≤ 5000 := by omega
  clear hval hmay hrow hRl hSl
  go_wp2_with fail
  refine (rlen_any S w3 (by omega)).mono ?_
  rintro e w4 ⟨rfl, hk4⟩
  have HK4 := Lib.hid (HK3.out.trans hk4)
  have HP4 := Lib.hid (HP3.out.kept hk4 id)
  have HT4 := Lib.hid (HT3.out.kept hk4 id id)
  clear p1 HK3 hk4 HP3 HT3
  have p1 := HP4.out.c1
  generalize hR : Utf.runes S.data.toList = R at HMay hRS ⊢
  have HR := Lib.hid hR
  clear hR
  by_cases h200 : 200 < R.length
  · have b1 : decide ((200 : Int) < (R.length : Int)) = true := by simp; omega
    go_wp2
    go_ret
    exact ⟨rfl, HK4.out⟩
  have b1 : decide ((200 : Int) < (R.length : Int)) = false := by simp; omega
  go_wp2_with fail
  refine (rlen_any S w4 (by rw [HR.out]; omega)).mono ?_
  rintro e w5 ⟨rfl, hk5⟩
  rw [HR.out]
  have HK5 := Lib.hid (HK4.out.trans hk5)
  have HP5 := Lib.hid (HP4.out.kept hk5 id)
  have HT5 := Lib.hid (HT4.out.kept hk5 id id)
  clear p1 HK4 hk5 HP4 HT4
  have p1 := HP5.out.c1
  go_wp2_with fail
  have cN := new_yes S (R.length + 3) w5 (by omega) HT5.out HVal.out (by rw [HR.out]; exact HMay.out) (by omega) (by rw [HR.out]; omega)
  rw [HR.out, Int.natCast_add] at cN
  refine cN.mono ?_
  rintro e w6 ⟨hk6, rb, cb, n6, c6, zs6, hrb, hcb, rfl, hg6⟩
  have hpb5 := heap_lt HP5.out
  have HK6 := Lib.hid (HK5.out.trans hk6)
  have HP6 := Lib.hid (HP5.out.kept hk6 id)
  have HT6 := Lib.hid (HT5.out.kept hk6 id id)
  have HG6 := Lib.hid hg6
  have hbase : w.heap.size ≤ w5.heap.size := HK5.out.size
  clear p1 HK5 hk6 HP5 HT5 hg6 cN
  have p1 := HP6.out.c1
  go_wp2_with fail
  refine (num_any _ _).mono ?_
  rintro e w' ⟨rfl, rfl⟩
  go_wp2_with fail
  go_loopw [6] (fun v wr => BackRel w rb pb (R.length + 3) room S A n c R v wr) (fun v _ => R.length + 1 - (intOf v).toNat)
  case atStart => exact ⟨0, cb, n6, c6, 0, 0, zs6, 0, by omega, rfl, by omega, HG6.out, HK6.out, HP6.out, by omega, by omega⟩
  case round =>
    obtain ⟨k, cb7, n7, c7, low7, high7, zs7, M7, hk, rfl, hM, hg7, hk7, hp7, hpc, hwc⟩ := hrel
    have HG7 := Lib.hid hg7
    have HK7 := Lib.hid hk7
    have HP7 := Lib.hid hp7
    clear hg7 hk7 hp7 HG6 HP6 HK6
    by_cases hkl : k ≤ R.length
    · have hk200 : k ≤ 200 := by omega
      have hl7 := HG7.out.lh
      have hh7 := HG7.out.hn
      have hn7 := HG7.out.nr
      have hm7 := HG7.out.m0
      go_wp2_with fail
      have hrl := heap_lt HG7.out.r
      have hcl := heap_lt HG7.out.b
      have HG8 := Lib.hid (HG7.out.kept ((Kept.refl (fun _ => False) wr).alloc (.cells #[.int .i64 97, .int .i64 8364, .int .i64 98] 3)) id id)
      have HK8 := Lib.hid (HK7.out.alloc (.cells #[.int .i64 97, .int .i64 8364, .int .i64 98] 3))
      have HP8 := Lib.hid (HP7.out.kept ((Kept.refl (fun _ => False) wr).alloc (.cells #[.int .i64 97, .int .i64 8364, .int .i64 98] 3)) id)
      have cI := insert_yes HG8.out k (some ⟨wr.heap.size, 0, none⟩) 3 3 [97, 8364, 98] hkl (buf3 wr 97 8364 98) (by intro x hx; simp at hx; unfold May; omega) (by omega) (by omega) (by intro ad e; injection e with e; subst e; constructor <;> (show wr.heap.size ≠ _; omega))
      clear HG7 HK7 HP7
      generalize wr.alloc (.cells #[.int .i64 97, .int .i64 8364, .int .i64 98] 3) = w8 at HG8 HK8 HP8 cI ⊢
      refine cI.mono ?_
      rintro e w9 ⟨rfl, hk9, cb9, n9, c9, high9, zs9, hcb9, hg9⟩
      have hpb8 := heap_lt HP8.out
      have HG9 := Lib.hid hg9
      have HK9 := Lib.hid (HK8.out.fresh hk9 (fun j hj => by rintro (h | h) <;> omega))
      have HP9 := Lib.hid (HP8.out.kept hk9 (by rintro (h | h) <;> omega))
      have hpc9 : pb < cb9 := by rcases hcb9 with h | h <;> omega
      clear cI hk9 hg9 hcb9 HG8 HK8 HP8
      have hlen9 : (R.take k ++ [97, 8364, 98] ++ R.drop k).length = R.length + 3 := by simp; omega
      have htk : ((R.take k ++ [97, 8364, 98] ++ R.drop k).drop k).take 3 = [97, 8364, 98] := by
        rw [List.append_assoc, List.drop_append_of_le_length (by simp; omega), List.drop_eq_nil_of_le (by simp; omega)]
        rfl
      have hdel : (R.take k ++ [97, 8364, 98] ++ R.drop k).take k ++ (R.take k ++ [97, 8364, 98] ++ R.drop k).drop (k + 3) = R := by
        rw [List.append_assoc, List.take_append_of_le_length (by simp; omega), List.take_of_length_le (by simp; omega), ← List.append_assoc, List.drop_append_of_le_length (by simp; omega), List.drop_eq_nil_of_le (by simp; omega)]
        simp
      have HTK := Lib.hid htk
      have HDEL := Lib.hid hdel
      have HLEN := Lib.hid hlen9
      clear htk hdel hlen9
      generalize R.take k ++ [97, 8364, 98] ++ R.drop k = T9 at HG9 HTK HDEL HLEN
      go_wp2_with fail
      refine (num_any _ _).mono ?_
      rintro e w' ⟨rfl, rfl⟩
      go_wp2_with fail
      have HG10 := Lib.hid (HG9.out.kept ((Kept.refl (fun _ => False) w').alloc (.cells #[.int .i64 99] 3)) id id)
      have HK10 := Lib.hid (HK9.out.alloc (.cells #[.int .i64 99] 3))
      have HP10 := Lib.hid (HP9.out.kept ((Kept.refl (fun _ => False) w').alloc (.cells #[.int .i64 99] 3)) id)
      have cF := insert_full HG10.out k (some ⟨w'.heap.size, 0, none⟩) 1 1 [99] (by rw [HLEN.out]; omega) (buf1 w' 99) (by intro x hx; simp at hx; subst hx; unfold May; omega) (by omega) (by rw [HLEN.out]; omega)
      clear HG9 HK9 HP9
      generalize w'.alloc (.cells #[.int .i64 99] 3) = w10 at HG10 HK10 HP10 cF ⊢
      refine cF.mono ?_
      rintro e w11 ⟨rfl, q, rfl⟩
      clear cF
      have HG11 := Lib.hid (HG10.out.drewN q)
      have HK11 := Lib.hid (HK10.out.drewN q)
      have HP11 : Hid (PB (w10.drewN q) pb room S A n c) := HP10.out
      clear HG10 HK10 HP10
      generalize w10.drewN q = w11 at HG11 HK11 HP11 ⊢
      go_wp2_with fail
      refine (num_any _ _).mono ?_
      rintro e w' ⟨rfl, rfl⟩
      go_wp2_with fail
      refine (G_len HG11.out).mono ?_
      rintro e w12 ⟨rfl, q, rfl⟩
      rw [HLEN.out, Int.natCast_add]
      have HG12 := Lib.hid (HG11.out.drewN q)
      have HK12 := Lib.hid (HK11.out.drewN q)
      have HP12 : Hid (PB (w'.drewN q) pb room S A n c) := HP11.out
      clear HG11 HK11 HP11
      generalize w'.drewN q = w12 at HG12 HK12 HP12 ⊢
      go_wp2_with fail
      have cS := slice_yes HG12.out k 3 (by rw [HLEN.out]; omega)
      rw [HTK.out, aeb, show ((3 : Nat) : Int) = 3 from rfl] at cS
      refine cS.mono ?_
      rintro e w13 ⟨rfl, q, rfl⟩
      clear cS
      have HG13 := Lib.hid (HG12.out.drewN q)
      have HK13 := Lib.hid (HK12.out.drewN q)
      have HP13 : Hid (PB (w12.drewN q) pb room S A n c) := HP12.out
      clear HG12 HK12 HP12
      generalize w12.drewN q = w13 at HG13 HK13 HP13 ⊢
      have hT9 := HG13.out.len
      have hm13 := HG13.out.m0
      go_wp2_with fail
      go_outline
      have cD := delete_yes (w := w13.drew) ⟨HG13.out.r, HG13.out.b, HG13.out.z, HG13.out.lh, HG13.out.hn, HG13.out.nc, HG13.out.nr, HG13.out.rr, HG13.out.m0, HG13.out.t⟩ k 3 (by rw [HLEN.out]; omega) (by omega)
      rw [HDEL.out, show ((3 : Nat) : Int) = 3 from rfl] at cD
      have HPD : Hid (PB w13.drew pb room S A n c) := HP13.out
      have p13 := HP13.out.c1
      have p13d := HPD.out.c1
      have hnot : ¬ (pb = rb ∨ pb = cb9) := by rintro (h | h) <;> omega
      have hSR : runesBytes R = S := by
        apply ByteArray.ext
        apply Array.toList_inj.1
        rw [Utf.runesBytes_eq, ← HR.out, Utf.bytes_runes HVal.out]
      have HSR := Lib.hid hSR
      clear HLEN HTK HMay hT9 hSR
      go_region_held3 (fun w' => w'.cell? ⟨pb, 1, none⟩ = some (.string S)) (first | exact p13 | exact p13d | exact (PB.kept HPD.out hk14 hnot).c1 | go_keep)
        (first | (go_at_call 10; refine (num_any _ _).mono ?_; rintro e w' ⟨rfl, rfl⟩) | (go_at_call 12; refine cD.mono ?_; rintro e w14 ⟨rfl, hk14, high14, zs14, hg14⟩) | (go_at_call 19; refine (text_any hg14).mono ?_; rintro e w15 ⟨rfl, q15, rfl⟩; rw [HSR.out]))
      have HG15 : Hid (GS (w'.drewN q15) rb (R.length + 3) cb9 n9 c9 k high14 (M7 + ((low7 : Int) - (k : Int)).natAbs + (((k + 3 : Nat) : Int) - (k : Int)).natAbs) zs14 R) := hg14.drewN q15
      have HK15 : Hid (Kept (fun _ => False) w (w'.drewN q15)) := (Kept.fresh HK13.out.drew hk14 (fun j hj => by have := HPB.out; rintro (h | h) <;> omega)).drewN q15
      have HP15 : Hid (PB (w'.drewN q15) pb room S A n c) := PB.kept (T := fun k => k = rb ∨ k = cb9) (w' := w') HPD.out hk14 hnot
      clear hg14 hk14 HG13 HK13 HP13 HPD cD p13 p13d
      generalize w'.drewN q15 = w15 at HG15 HK15 HP15 ⊢
      go_wp2
      go_roundw
      case rel => exact ⟨k + 1, cb9, n9, c9, k, high14, zs14, _, by omega, by go_num, by omega, HG15.out, HK15.out, HP15.out, hpc9, by have := HPB.out; omega⟩
      case measure => simp [intOf]; omega
    · obtain rfl : k = R.length + 1 := by omega
      go_wp2_with fail
      refine (wakes_any wr (HT.out.kept HK7.out id id)).mono ?_
      rintro e w8 ⟨rfl, hk8⟩
      have HK8 := Lib.hid (HK7.out.trans hk8)
      clear hk8 HK7 HG7 HP7
      go_wp2_with fail
      go_ret
      exact ⟨rfl, HK8.out⟩
end Go.Proofs.YthhlchgnjdfpeaaDoor
