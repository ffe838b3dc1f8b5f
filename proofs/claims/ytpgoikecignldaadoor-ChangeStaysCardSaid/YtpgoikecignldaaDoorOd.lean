/-
  THE PROGRAM's Of (change): d, c.
-/
import Derived.Test.YtpgoikecignldaaDoorTkn
set_option linter.unusedVariables false
namespace Go.Proofs.YtpgoikecignldaaDoor
open Go Go.RowKit

set_option maxRecDepth 100000 in
set_option maxHeartbeats 1000000 in
theorem of_d (s : ByteArray) (lo hi : Nat) (line : Bool) (key : Int) (k L H AT : Nat) (w : World) (hT : Tabs w) (hm : mayB s = true) (hk : k ≤ (rs s).length) (hr : Rw.Rng (rs s) lo hi line)
    (hway : (key = 99 ∧ L = lo ∧ H = hi ∧ AT = lo) ∨ (key = 100 ∧ line = false ∧ L = lo ∧ H = hi ∧ AT = Rw.rst (Rw.lft (rs s) L H) L) ∨
      (key = 100 ∧ line = true ∧ ((hi < (rs s).length ∧ L = lo ∧ H = hi + 1) ∨ (¬ hi < (rs s).length ∧ 0 < lo ∧ L = lo - 1 ∧ H = hi) ∨ (¬ hi < (rs s).length ∧ lo = 0 ∧ L = lo ∧ H = hi)) ∧ AT = Rw.rst (Rw.lft (rs s) L H) (Rw.fst (Rw.lft (rs s) L H) L))) :
    Calls Tryd.prog 8 #[.string s, rngV lo hi line, .int .i64 key, .int .i64 k] w fun e w' => e = .returned (.tuple #[chgV (Rw.bat (rs s) (Rw.lft (rs s) L H) : Nat) (Rw.bdel (rs s) (Rw.lft (rs s) L H) : Nat) (runesBytes (Rw.bins (rs s) (Rw.lft (rs s) L H))) AT (runesBytes (Rw.tkn (rs s) lo hi)) line, .int .i64 0]) ∧ Kept (fun _ => False) w w' := by
  have hka : Kept (fun _ => False) w ((w.alloc (rngO lo hi line)).alloc (chgO 0 0 ⟨#[]⟩ 0 ⟨#[]⟩ false)) := ((Kept.refl _ w).alloc _).alloc _
  have hTa := hT.kept hka id id
  have cR := runes_cap s k _ hTa hm hk
  have hsz := mayB_size hm
  have hl := rs_len s
  have HR := Lib.hid (rngI_nat.2 hr)
  have hkey : key = 99 ∨ key = 100 := by rcases hway with ⟨h, _⟩ | ⟨h, _⟩ | ⟨h, _⟩; exact .inl h; exact .inr h; exact .inr h
  have cT := fun (b cap : Nat) W hW hA hc => taken_any s b cap lo hi line key L H AT W hW hm hA hc hr.1 hr.2.1 hway
  have HX0 : Hid (((w.alloc (rngO lo hi line)).alloc (chgO 0 0 ⟨#[]⟩ 0 ⟨#[]⟩ false)).heap[w.heap.size]? = some (rngO lo hi line)) := heap_two' w _ _
  have HG0 : Hid (((w.alloc (rngO lo hi line)).alloc (chgO 0 0 ⟨#[]⟩ 0 ⟨#[]⟩ false)).heap[w.heap.size + 1]? = some (chgO 0 0 ⟨#[]⟩ 0 ⟨#[]⟩ false)) := heap_two'' w _ _
  have HTA := Lib.hid hTa
  generalize rs s = t at *
  generalize ((Rw.bat t (Rw.lft t L H) : Nat) : Int) = PA at *
  generalize ((Rw.bdel t (Rw.lft t L H) : Nat) : Int) = PD at *
  generalize runesBytes (Rw.bins t (Rw.lft t L H)) = PI at *
  generalize runesBytes (Rw.tkn t lo hi) = TK at *
  have HKA := Lib.hid hka
  have HCT := Lib.hid cT
  clear hT hka hm hTa hway hr cT
  go_enter Tryd.func8, Tryd.ntmps8
  go_upto_region 2 with (go_at_call 21; refine cR.mono ?_; rintro e w0 ⟨hk0, b, cap, rfl, hb, hcap, hR⟩)
  have hI0 : OfI lo hi line b w.heap.size t w0 := ⟨HTA.out.kept hk0 id id, hR, (hk0.block w.heap.size (by simp; omega) id).trans HX0.out, (hk0.block (w.heap.size + 1) (by simp) id).trans HG0.out⟩
  have HK0 := Lib.hid (HKA.out.trans hk0)
  obtain ⟨xb, hxb⟩ : ∃ xb, w.heap.size = xb := ⟨_, rfl⟩
  have HXB := Lib.hid hxb
  simp only [hxb] at hI0 ⊢
  have HI0 := Lib.hid hI0
  clear hxb hk0 cR HX0 HG0 HTA hR hI0 hb
  obtain ⟨f0, f1, f2⟩ := HI0.out.cells
  have cM := chmay_any (some ⟨b, 0, none⟩) t.length cap t lo hi line true w0 HI0.out.rn (by omega) ⟨fun _ => HR.out, fun _ => rfl⟩
  rcases hkey with rfl | rfl
  all_goals
    go_upto_region 9 with (go_at_call 22; refine cM.mono ?_; rintro e w1 ⟨rfl, hk01⟩; have HK1 := Lib.hid (HK0.out.trans hk01); have HI1 := Lib.hid (HI0.out.kept hk01); clear hk01 f0 f1 f2 cM)
    obtain ⟨f0, f1, f2⟩ := HI1.out.cells
    go_wp2_with (go_at_call 25; refine (HCT.out b cap _ HI1.out.tabs HI1.out.rn hcap).mono ?_; rintro e w2 ⟨rfl, hk2⟩; have HI2 := Lib.hid (HI1.out.kept hk2); have HK2 := Lib.hid (HK1.out.trans hk2); obtain ⟨⟨c0, c1, c2, c3, c4, c5⟩, k0, k1, k2, k3, k4, k5⟩ := chg_facts HI2.out.chg; clear hk2)
    refine bodyPost_ret (res_chg rfl _ _ (xb + 1) _ _ _ _ _ _ (0, 0) rfl (chg_six HI2.out.chg _ _ _ _ _ _)) rfl ⟨rfl, ?_⟩
    exact HK2.out.fresh (Kept.six (Kept.refl (fun q => q = xb + 1) w2) rfl _ _ _ _ _ _) (fun b hb e => by have := HXB.out; omega)
end Go.Proofs.YtpgoikecignldaaDoor
