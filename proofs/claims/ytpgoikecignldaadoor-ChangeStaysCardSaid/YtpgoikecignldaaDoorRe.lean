/-
  Rest OF THE PROGRAM: where normal mode's cursor stands.
-/
import Derived.Test.YtpgoikecignldaaDoorBo
set_option linter.unusedVariables false
namespace Go.Proofs.YtpgoikecignldaaDoor
open Go Go.RowKit

theorem Rw.en_ne {t : List Int} {k : Nat} {c : Int} (h : t[k]? = some c) (hc : c ≠ 10) : Rw.en t k ≠ k := by
  have h1 := Rw.en_step h hc
  have h2 := Rw.en_ge t (k + 1)
  omega
set_option maxRecDepth 100000 in
set_option maxHeartbeats 1000000 in
theorem rest_yes (s : ByteArray) (k : Nat) (w : World) (hT : Tabs w) (hm : mayB s = true) (hk : k ≤ (rs s).length) :
    Calls Tryd.prog 33 #[.string s, .int .i64 k] w fun e w' => e = .returned (.tuple #[.int .i64 (Rw.rst (rs s) k : Nat), .int .i64 0]) ∧ Kept (fun _ => False) w w' := by
  have cP := place_yes s k w hT hm hk
  have hsz := mayB_size hm
  have cB := fun W => byteOf_yes s k W hsz hk
  have hl := rs_len s
  obtain ⟨V, hV⟩ : ∃ V, Rw.rst (rs s) k = V := ⟨_, rfl⟩
  rw [hV]
  generalize rs s = t at *
  have hb := Rw.beg_le t k
  have HV := Lib.hid hV
  obtain ⟨cl, hcl⟩ : ∃ cl, k - Rw.beg t k = cl := ⟨_, rfl⟩
  rw [hcl] at cP
  generalize Rw.nl t k = ro at cP
  have HCL := Lib.hid hcl
  clear hT hm hV hcl
  go_enter Tryd.func33, Tryd.ntmps33
  go_wp2_with (go_at_call 42; refine cP.mono ?_; rintro e w1 ⟨rfl, hk1⟩; have HK1 := Lib.hid hk1; clear hk1 cP)
  have hf : (w1.alloc (posO (ro : Nat) (cl : Nat))).cell? ⟨w1.heap.size, 1, none⟩ = some (.int .i64 (cl : Nat)) := by rw [cell_of_row _ _ _ _ _ _ (heap_alloc_new w1 _)]; rfl
  have HK2 : Hid (Kept (fun _ => False) w (w1.alloc (posO (ro : Nat) (cl : Nat)))) := HK1.out.alloc _
  generalize w1.alloc (posO (ro : Nat) (cl : Nat)) = W at *
  generalize w1.heap.size = g at *
  refine (cB W).mono ?_
  rintro e w3 ⟨⟨b, rfl, hbs, hdr⟩, hk3⟩
  have HDR := Lib.hid hdr
  have HK3 := Lib.hid (HK2.out.trans hk3)
  have f1 := cell_kept hk3 hf id
  clear hdr hk3 hf cB
  by_cases hc0 : cl = 0
  · subst hc0
    have HR : Hid (V = k) := by
      show _ = _
      rw [← HV.out]
      unfold Rw.rst
      rw [if_neg]
      have := HCL.out
      omega
    go_wp2
    exact bodyPost_ret (v := .tuple #[.int .i64 (k : Nat), .int .i64 0]) (by simp [results, Tryd.results33, go_sem]) rfl ⟨by rw [HR.out], HK3.out⟩
  · obtain ⟨c', rfl⟩ : ∃ c', cl = c' + 1 := ⟨cl - 1, by omega⟩
    have hkb : Rw.beg t k < k := by have := HCL.out; omega
    obtain ⟨k', rfl⟩ : ∃ k', k = k' + 1 := ⟨k - 1, by omega⟩
    have b0 : decide (0 < c' + 1) = true := decide_eq_true (by omega)
    have b1 : decide ((0 : Int) < (c' : Int) + 1) = true := decide_eq_true (by omega)
    clear hc0
    by_cases hbe : b = s.size
    · have hkl : k' + 1 = t.length := rune_stop HDR.out (by omega) hk
      have HR : Hid (V = k') := by
        show _ = _
        rw [← HV.out]
        unfold Rw.rst
        rw [if_pos ⟨Rw.en_end (by omega), hkb⟩]
        rfl
      subst hbe
      clear hkl hkb hb
      go_wp2
      exact bodyPost_ret (v := .tuple #[.int .i64 (k' : Nat), .int .i64 0]) (by simp [results, Tryd.results33, go_sem]) rfl ⟨by rw [HR.out], HK3.out⟩
    · have hlt : b < s.size := by omega
      have ht := ten_at HDR.out hlt
      obtain ⟨hrc, _, _⟩ := rune_step HDR.out hlt
      have e1 : ((b : Int) == (s.size : Int)) = false := by rw [beq_eq_false_iff_ne]; omega
      have e2 : (b == s.size) = false := by rw [beq_eq_false_iff_ne]; exact hbe
      obtain ⟨bb, hbb⟩ : ∃ bb, s[b]'hlt = bb := ⟨_, rfl⟩
      rw [hbb] at ht
      by_cases h10 : bb.toNat = 10
      · have HR : Hid (V = k') := by
          show _ = _
          rw [← HV.out]
          unfold Rw.rst
          rw [if_pos ⟨Rw.en_stop (ht.1 h10), hkb⟩]
          rfl
        have e3 : ((bb.toNat : Int) == 10) = true := by rw [beq_iff_eq]; omega
        clear ht hrc h10 hkb hb hbe
        go_wp2
        exact bodyPost_ret (v := .tuple #[.int .i64 (k' : Nat), .int .i64 0]) (by simp [results, Tryd.results33, go_sem]) rfl ⟨by rw [HR.out], HK3.out⟩
      · have HR : Hid (V = k' + 1) := by
          show _ = _
          rw [← HV.out]
          unfold Rw.rst
          rw [if_neg]
          rintro ⟨h1, _⟩
          exact Rw.en_ne hrc (fun e => h10 (ht.2 (by rw [hrc, e]))) h1
        have e3 : ((bb.toNat : Int) == 10) = false := by rw [beq_eq_false_iff_ne]; omega
        clear ht hrc h10 hkb hb hbe
        go_wp2
        exact bodyPost_ret (v := .tuple #[.int .i64 ((k' : Nat) + 1), .int .i64 0]) (by simp [results, Tryd.results33, go_sem]) rfl ⟨by rw [HR.out]; rfl, HK3.out⟩
end Go.Proofs.YtpgoikecignldaaDoor
