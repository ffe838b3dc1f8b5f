/-
  ROWS SHIFTED: the program's Of by > and <; the reference's shifted.
-/
import Derived.Test.YtpgoikecignldaaDoorSf1
import Derived.Test.YtpgoikecignldaaDoorRc
set_option linter.unusedVariables false
namespace Go.Proofs.YtpgoikecignldaaDoor
open Go Go.RowKit

set_option maxRecDepth 100000 in
set_option maxHeartbeats 1000000 in
theorem of_s (s : ByteArray) (lo hi : Nat) (line : Bool) (key : Int) (k : Nat) (w : World) (hT : Tabs w) (hM : Mx w) (hm : mayB s = true) (hk : k ≤ (rs s).length) (hr : Rw.Rng (rs s) lo hi line) (hkey : key = 62 ∨ key = 60) :
    Calls Tryd.prog 8 #[.string s, rngV lo hi line, .int .i64 key, .int .i64 k] w fun e w' => (∃ v, e = .returned v ∧ ShV s lo hi key v) ∧ Kept (fun _ => False) w w' := by
  have hka : Kept (fun _ => False) w ((w.alloc (rngO lo hi line)).alloc zeroQ) := ((Kept.refl _ w).alloc _).alloc _
  have hTa := hT.kept hka id id
  have hMa := hM.kept hka
  have cR := runes_cap s k _ hTa hm hk
  have hsz := mayB_size hm
  have hl := rs_len s
  have HR := Lib.hid (rngI_nat.2 hr)
  have cC := fun b cap W hT hM hA hcap => shifted_any s b cap lo hi line key W hT hM hm hA hcap hr.1 hr.2.1 hkey
  generalize ShV s lo hi key = P at *
  have HX0 : Hid (((w.alloc (rngO lo hi line)).alloc zeroQ).heap[w.heap.size]? = some (rngO lo hi line)) := heap_two' w _ _
  have HG0 : Hid (((w.alloc (rngO lo hi line)).alloc zeroQ).heap[w.heap.size + 1]? = some zeroQ) := heap_two'' w _ _
  generalize rs s = t at *
  have HTA := Lib.hid hTa
  have HMA := Lib.hid hMa
  have HKA := Lib.hid hka
  have HCC := Lib.hid cC
  clear hT hka hm hTa hMa hM cC hr
  go_enter Tryd.func8, Tryd.ntmps8
  go_upto_region 2 with (go_at_call 21; refine cR.mono ?_; rintro e w0 ⟨hk0, b, cap, rfl, hb, hcap, hR⟩)
  have hI0 : OfI lo hi line b w.heap.size t w0 := ⟨HTA.out.kept hk0 id id, hR, (hk0.block w.heap.size (by simp; omega) id).trans HX0.out, (hk0.block (w.heap.size + 1) (by simp) id).trans HG0.out⟩
  have HK0 := Lib.hid (HKA.out.trans hk0)
  have HM0 := Lib.hid (HMA.out.kept hk0)
  obtain ⟨xb, hxb⟩ : ∃ xb, w.heap.size = xb := ⟨_, rfl⟩
  have HXB := Lib.hid hxb
  simp only [hxb] at hI0 ⊢
  have HI0 := Lib.hid hI0
  clear hxb hk0 cR HX0 HG0 HTA hR hI0 hb
  obtain ⟨f0, f1, f2⟩ := HI0.out.cells
  have cM := chmay_any (some ⟨b, 0, none⟩) t.length cap t lo hi line true w0 HI0.out.rn (by omega) ⟨fun _ => HR.out, fun _ => rfl⟩
  go_upto_region 4 with (go_at_call 22; refine cM.mono ?_; rintro e w1 ⟨rfl, hk01⟩; have HK1 := Lib.hid (HK0.out.trans hk01); have HM1 := Lib.hid (HM0.out.kept hk01); have HI1 := Lib.hid (HI0.out.kept hk01); clear hk01 f0 f1 f2 cM)
  obtain ⟨f0, f1, f2⟩ := HI1.out.cells
  have cC := HCC.out b cap w1 HI1.out.tabs HM1.out HI1.out.rn hcap
  rcases hkey with rfl | rfl
  all_goals
    go_wp2_with (go_at_call 26; refine cC.mono ?_; rintro e w2 ⟨⟨a, d, p, x, tk, E, rfl, hp⟩, hk2⟩; have HP := Lib.hid hp; have HK2 := Lib.hid (HK1.out.trans hk2); have HI2 := Lib.hid (HI1.out.kept hk2); obtain ⟨⟨c0, c1, c2, c3, c4, c5⟩, k0, k1, k2, k3, k4, k5⟩ := chg_facts HI2.out.chg; clear hp hk2 cC; unfold chgQ)
    refine bodyPost_ret (res_chg rfl _ _ (xb + 1) _ _ _ _ _ _ (0, 0) rfl (chg_six HI2.out.chg _ _ _ _ _ _)) rfl ⟨⟨chgQ a d p x tk E, rfl, HP.out⟩, ?_⟩
    exact HK2.out.fresh (Kept.six (Kept.refl (fun q => q = xb + 1) _) rfl _ _ _ _ _ _) (fun b hb e => by have := HXB.out; omega)
theorem en_en (t : List Int) (k : Nat) (hk : k ≤ t.length) : Rw.en t (Rw.en t k) = Rw.en t k := by
  have := Rw.en_le t k hk
  by_cases h : Rw.en t k < t.length
  · exact Rw.en_stop (Rw.en_at t k h)
  · exact Rw.en_end (by omega)
end Go.Proofs.YtpgoikecignldaaDoor
