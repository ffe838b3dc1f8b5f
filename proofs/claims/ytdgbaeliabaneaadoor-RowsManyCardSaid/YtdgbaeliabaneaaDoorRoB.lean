/-
  A TREE OF ROWS over two others.
-/
import Derived.Test.YtdgbaeliabaneaaDoorRoA
import Derived.Test.YtdgbaeliabaneaaDoorShelf2
import Derived.Deep.RegionHeld3
import Derived.Deep.CutRange
set_option linter.unusedVariables false
namespace Go.Proofs.YtdgbaeliabaneaaDoor
open Go Go.RowKit

theorem heap_new1 (w : World) (o o' : Obj) : ((w.alloc o).alloc o').heap[w.heap.size + 1]? = some o' := by
  have h := heap_alloc_new (w.alloc o) o'
  rwa [show (w.alloc o).heap.size = w.heap.size + 1 by simp] at h
theorem heap_new0 (w : World) (o o' : Obj) : ((w.alloc o).alloc o').heap[w.heap.size]? = some o :=
  (Below.heap_alloc (w.alloc o) o' w.heap.size (by simp)).trans (heap_alloc_new w o)
theorem heap_three (w : World) (o o' o'' : Obj) : (((w.alloc o).alloc o').alloc o'').heap[w.heap.size]? = some o ∧ (((w.alloc o).alloc o').alloc o'').heap[w.heap.size + 1]? = some o' ∧ (((w.alloc o).alloc o').alloc o'').heap[w.heap.size + 1 + 1]? = some o'' := by
  refine ⟨(Below.heap_alloc ((w.alloc o).alloc o') o'' w.heap.size (by simp <;> omega)).trans (heap_new0 w o o'), (Below.heap_alloc ((w.alloc o).alloc o') o'' (w.heap.size + 1) (by simp <;> omega)).trans (heap_new1 w o o'), ?_⟩
  have h := heap_new1 (w.alloc o) o' o''
  rwa [show (w.alloc o).heap.size = w.heap.size + 1 by simp] at h
theorem count_from (s : ByteArray) : ∀ (b pos : Nat), s.size ≤ pos + b → Lib.runeCountFrom s b pos = (Utf.runes (s.data.toList.drop pos)).length
  | 0, pos, h => by rw [rune_end s pos (by omega)]; rfl
  | b + 1, pos, h => by
    by_cases hp : pos < s.size
    · have hw := Lib.decode_width_pos s pos hp
      have ih := count_from s b (pos + (Utf8.decode s pos).2) (by omega)
      have e : Lib.runeCountFrom s (b + 1) pos = 1 + Lib.runeCountFrom s b (pos + (Utf8.decode s pos).2) := by
        rw [Lib.runeCountFrom, if_pos hp]
      rw [rune_at s pos hp, List.length_cons, ← ih, e]
      omega
    · rw [rune_end s pos hp, Lib.runeCountFrom_end s _ pos hp]; rfl
theorem rcount_any (s : ByteArray) (w : World) (hs : s.size ≤ 1000000) : Calls Tryd.prog 50 #[.string s] w fun e w' => e = .returned (.int .i64 (rs s).length) ∧ Kept (fun _ => False) w w' := by
  have h := Any.utf8_RuneCountInString Tryd.lays195 s w (by omega)
  have e : Lib.runeCount s = (rs s).length := by
    have := count_from s s.size 0 (by omega)
    exact this
  rw [e] at h
  exact h.mono fun e w' ⟨he, pos, hw⟩ => ⟨he, by rw [hw]; exact (Kept.refl _ w).alloc _⟩
set_option maxRecDepth 100000 in
set_option maxHeartbeats 2000000 in
theorem plus_any (a b c a' b' c' : Nat) (w : World) (h1 : a ≤ 1000000000 ∧ b ≤ 1000000000 ∧ c ≤ 1000000000) (h2 : a' ≤ 1000000000 ∧ b' ≤ 1000000000 ∧ c' ≤ 1000000000) :
    Calls Tryd.prog 46 #[sumsV a b c, sumsV a' b' c'] w fun e w' => e = .returned (sumsV (a + a' : Nat) (b + b' : Nat) (c + c' : Nat)) ∧ Kept (fun _ => False) w w' := by
  have hk0 : Kept (fun _ => False) w (((w.alloc (sumsO a b c)).alloc (sumsO a' b' c')).alloc (sumsO 0 0 0)) := (((Kept.refl _ w).alloc _).alloc _).alloc _
  have HK0 := Lib.hid hk0
  have x0 : (((w.alloc (sumsO a b c)).alloc (sumsO a' b' c')).alloc (sumsO 0 0 0)).heap[w.heap.size]? = some (sumsO a b c) := (heap_three w _ _ _).1
  have x1 : (((w.alloc (sumsO a b c)).alloc (sumsO a' b' c')).alloc (sumsO 0 0 0)).heap[w.heap.size + 1]? = some (sumsO a' b' c') := (heap_three w _ _ _).2.1
  have x2 : (((w.alloc (sumsO a b c)).alloc (sumsO a' b' c')).alloc (sumsO 0 0 0)).heap[w.heap.size + 1 + 1]? = some (sumsO 0 0 0) := (heap_three w _ _ _).2.2
  have HX := Lib.hid x2
  obtain ⟨p0, p1, p2, _⟩ := sums_facts x0
  obtain ⟨q0, q1, q2, _⟩ := sums_facts x1
  obtain ⟨r0, r1, r2, r3, r4, r5⟩ := sums_facts x2
  have e1 : IntKind.i64.wrap ((a : Int) + (a' : Int)) = ((a + a' : Nat) : Int) := by rw [show (a : Int) + (a' : Int) = ((a + a' : Nat) : Int) by omega]; exact IntWalk.i64_in _ ⟨by omega, by omega⟩
  have e2 : IntKind.i64.wrap ((b : Int) + (b' : Int)) = ((b + b' : Nat) : Int) := by rw [show (b : Int) + (b' : Int) = ((b + b' : Nat) : Int) by omega]; exact IntWalk.i64_in _ ⟨by omega, by omega⟩
  have e3 : IntKind.i64.wrap ((c : Int) + (c' : Int)) = ((c + c' : Nat) : Int) := by rw [show (c : Int) + (c' : Int) = ((c + c' : Nat) : Int) by omega]; exact IntWalk.i64_in _ ⟨by omega, by omega⟩
  obtain ⟨n1, hn1⟩ : ∃ n, a + a' = n := ⟨_, rfl⟩
  obtain ⟨n2, hn2⟩ : ∃ n, b + b' = n := ⟨_, rfl⟩
  obtain ⟨n3, hn3⟩ : ∃ n, c + c' = n := ⟨_, rfl⟩
  rw [hn1] at e1 ⊢
  rw [hn2] at e2 ⊢
  rw [hn3] at e3 ⊢
  clear hk0 x0 x1 x2 hn1 hn2 hn3
  go_enter Tryd.func46, Tryd.ntmps46
  go_upto_region 1 with fail
  simp only [sumsO] at p0 p1 p2 q0 q1 q2 r0 r1 r2 r3 r4 r5 HX HK0
  generalize ((w.alloc _).alloc _).alloc _ = w0 at *
  obtain ⟨tb, htb⟩ : ∃ tb, w.heap.size = tb := ⟨_, rfl⟩
  have HTB := Lib.hid htb
  simp only [htb] at p0 p1 p2 q0 q1 q2 r0 r1 r2 r3 r4 r5 HX ⊢
  clear htb
  go_wp2
  refine bodyPost_ret (res_sums rfl _ _ (tb + 1 + 1) n1 n2 n3 rfl (sums_set HX.out _ _ _)) rfl ⟨rfl, ?_⟩
  exact HK0.out.fresh (Kept.sums (g := tb + 1 + 1) (S := fun q => q = tb + 1 + 1) (Kept.refl (fun q => q = tb + 1 + 1) w0) rfl _ _ _) (fun q h1 h2 => by have := HTB.out; omega)
set_option maxRecDepth 100000 in
set_option maxHeartbeats 2000000 in
theorem own_any (b : Nat) (s : ByteArray) (w : World) (h : w.cell? ⟨b, 0, none⟩ = some (.string s)) (hs : s.size ≤ 1000000) :
    Calls Tryd.prog 47 #[.pointer (some ⟨b, 0, none⟩)] w fun e w' => e = .returned (sumsV 1 (s.size : Nat) ((rs s).length : Nat)) ∧ Kept (fun _ => False) w w' := by
  have hk0 : Kept (fun _ => False) w (w.alloc (sumsO 0 0 0)) := (Kept.refl _ w).alloc _
  have HK0 := Lib.hid hk0
  have HX := Lib.hid (heap_alloc_new w (sumsO 0 0 0))
  have HF : Hid ((w.alloc (sumsO 0 0 0)).cell? ⟨b, 0, none⟩ = some (.string s)) := cell_kept hk0 h id
  have HBW : Hid (b < w.heap.size) := World.block_lt_of_cell? w _ h
  have hcn := fun W => rcount_any s W hs
  have HCN := Lib.hid hcn
  obtain ⟨N, hN⟩ : ∃ N, (rs s).length = N := ⟨_, rfl⟩
  rw [hN] at HCN ⊢
  clear hk0 h hcn hN
  go_enter Tryd.func47, Tryd.ntmps47
  go_upto_region 1 with fail
  simp only [sumsO] at HX HK0 HF
  generalize w.alloc _ = w0 at *
  obtain ⟨tb, htb⟩ : ∃ tb, w.heap.size = tb := ⟨_, rfl⟩
  have HTB := Lib.hid htb
  simp only [htb] at HX HBW ⊢
  clear htb
  have KF : Hid (∀ W, Kept (fun q => q = tb) w0 W → W.cell? ⟨b, 0, none⟩ = some (.string s)) := fun W hk => cell_kept hk HF.out (by have := HBW.out; show ¬ b = tb; omega)
  have KA := KF.out w0.drew (Kept.refl _ w0).drew
  have cN := HCN.out w0.drew
  go_region_held3 (fun (W : World) => W.cell? ⟨b, 0, none⟩ = some (.string s))
    (first | with_reducible exact KD.out _ _ _ | with_reducible exact KB | with_reducible exact KA)
    (first | (go_at_call 50; refine cN.mono ?_; rintro e w1 ⟨rfl, hk1⟩; have HK1 := Lib.hid (((Kept.refl (fun _ => False) w0).drew).trans hk1); have HX1 := Lib.hid ((HK1.out.block _ (heap_lt HX.out) id).trans HX.out); have KB := KF.out w1 HK1.out.any; have KD := Lib.hid (fun v0 v1 v2 => KF.out _ (Kept.sums (g := tb) (S := fun q => q = tb) (HK1.out.any (S := fun q => q = tb)) rfl v0 v1 v2)); obtain ⟨r0, r1, r2, r3, r4, r5⟩ := sums_facts HX1.out; clear hk1 cN))
  all_goals
    go_wp2_with fail
    refine bodyPost_ret (res_sums rfl _ _ tb 1 s.size N rfl (sums_set HX1.out _ _ _)) rfl ⟨rfl, ?_⟩
    exact (HK0.out.trans HK1.out).fresh (Kept.sums (g := tb) (S := fun q => q = tb) (Kept.refl (fun q => q = tb) w1) rfl _ _ _) (fun q h1 h2 => by have := HTB.out; omega)
end Go.Proofs.YtdgbaeliabaneaaDoor
