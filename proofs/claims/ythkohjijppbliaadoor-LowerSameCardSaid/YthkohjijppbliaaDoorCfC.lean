/-
  COPIES: numbers, an op, texts.
-/
import Derived.Test.YthkohjijppbliaaDoorLMh
set_option linter.unusedVariables false
namespace Go.Proofs.YthkohjijppbliaaDoor
open Go Go.RowKit

theorem own_nums0 {w : World} {B n : Nat} {v : Value} {xs : List Int} (h : w.ownsRow B 3 1 v n (xs.map (.int .i64))) (hl : xs.length = n) : ∃ A c, v = .slice A n c ∧ (∀ a, A = some a → B ≤ a.block) ∧ Nums w A n xs ∧ n ≤ c := by
  have hcells : ∀ g, v.ownBlock = some g → ∀ j u, (xs.map (Value.int .i64))[j]? = some u → w.cell? ((⟨g, 0, none⟩ : Addr).add j) = some u := fun g hg => h.cells hg
  rcases h.2 with ⟨rfl, rfl⟩ | ⟨g, cap, cur, rfl, hb, _, hc, _⟩
  · obtain rfl := List.eq_nil_of_length_eq_zero hl
    exact ⟨none, 0, rfl, (fun a ha => by cases ha), ⟨rfl, fun j x hj => by simp at hj⟩, Nat.le_refl _⟩
  · exact ⟨_, cap, rfl, (fun a ha => by cases ha; exact hb), ⟨hl, fun j x hj => ⟨_, rfl, hcells g rfl j _ (by rw [List.getElem?_map, hj]; rfl)⟩⟩, hc⟩
theorem take_map {xs : List Int} {k : Nat} {x : Int} (h : xs[k]? = some x) : (xs.take (k + 1)).map (Value.int .i64) = (xs.take k).map (Value.int .i64) ++ [.int .i64 x] := by
  rw [List.take_add_one, h]
  simp
set_option maxRecDepth 100000 in
set_option maxHeartbeats 1000000 in
theorem copynum_any (A : Option Addr) (n c : Nat) (xs : List Int) (w : World) (hA : Nums w A n xs) (hn : n ≤ 17592186044416) :
    Calls Tryd.prog 56 #[.slice A n c] w fun e w' => (∃ B c', e = .returned (.slice B n c') ∧ Nums w' B n xs ∧ (∀ a, B = some a → w.heap.size ≤ a.block) ∧ n ≤ c') ∧ Kept (fun _ => False) w w' := by
  obtain ⟨i0, hi, hz0, hz1, hz2⟩ := info_parts info_int
  have HA := Lib.hid hA
  clear hA
  go_enter Tryd.func56, Tryd.ntmps56
  go_wp2_with fail
  go_loopw [3, 4] (fun v i wr => ∃ k : Nat, k ≤ n ∧ i = .int .i64 k ∧ wr.ownsRow w.heap.size 3 1 v k ((xs.take k).map (.int .i64)) ∧ Kept (fun _ => False) w wr) (fun _ i _ => n - (intOf i).toNat)
  case atStart => exact ⟨0, Nat.zero_le _, rfl, World.ownsRow_nil _ _ _ _, Kept.refl _ _⟩
  case round =>
    obtain ⟨k, hk, rfl, hown, hkept⟩ := hrel
    have HK := Lib.hid hkept
    have hszk := hkept.size
    have HSZ := Lib.hid hszk
    clear hkept hszk
    by_cases hkn : k < n
    · obtain ⟨ad, x, rfl, hx, f0⟩ := (HA.out.kept HK.out (fun _ _ => id)).cell hkn
      have HST := Lib.hid (take_map hx)
      generalize (xs.take k).map (Value.int .i64) = ys at *
      have b1 : decide (k < n) = true := decide_eq_true hkn
      have b2 : decide ((k : Int) < (n : Int)) = true := decide_eq_true (by omega)
      have t1 : (0 : Int) ≤ (k : Int) := by omega
      have t2 : (k : Int) < (n : Int) := by omega
      clear hx
      go_wp2_with (at_builtin; refine wpList_append_own_at _ rfl (.tmp 11) (.tmp 16) 40 rfl w.heap.size 3 i0 (.int .i64 0) 1 8 Tryd.underlying40 hi hz0 hz1 hz2 rfl (by decide) _ _ _ rfl (hown.alloc _) ⟨_, 0, none⟩ 1 1 [.int .i64 x] rfl rfl one_cells one_int (by unfold maxLen; omega) (by omega) (by have := HSZ.out; simp; omega) ?_; intro v' w4 hown' hgrow _ hat; have HK4 := Lib.hid (Kept.grew (HK.out.alloc _) hgrow (fun b hb => (hown.lt b hb).1)); have HO4 := Lib.hid hown'; clear hown' hgrow hat)
      go_roundw
      case rel => exact ⟨k + 1, by omega, by go_num, by rw [HST.out]; exact HO4.out, HK4.out⟩
      case measure => simp [intOf] <;> omega
    · obtain rfl : k = n := by omega
      have b1 : decide (k < k) = false := decide_eq_false (by omega)
      have b2 : decide ((k : Int) < (k : Int)) = false := decide_eq_false (by omega)
      rw [List.take_of_length_le (by rw [HA.out.1]; exact Nat.le_refl _)] at hown
      obtain ⟨B, c', rfl, hbs, hN, hcp⟩ := own_nums0 hown HA.out.1
      have HN := Lib.hid hN
      have HBS := Lib.hid hbs
      have HCP := Lib.hid hcp
      clear hN hown hbs hcp
      go_wp2_with fail
      go_ret
      exact ⟨⟨B, c', rfl, HN.out, HBS.out, HCP.out⟩, HK.out⟩
set_option maxRecDepth 100000 in
theorem res_op1 {fn : Func} {p : Tmp} (h : fn.results = #[.cell p 42]) (tmps : Array Value) (w : World) (g : Nat) (b : OpS) (fr : Nat × Nat) (hp : tmps.getD p undef = .pointer (some ⟨g, 0, none⟩))
    (hg : w.heap[g]? = some (.cells #[.int .i64 b.o.kd, .int .i64 b.o.t, .int .i64 b.o.si, .int .i64 b.o.t0, .int .i64 b.o.s0, .int .i64 b.o.rn, .int .i64 b.o.st, .int .i64 b.o.nn, .slice b.A b.n b.c] 42 fr)) :
    (results fn tmps).run Tryd.prog w = .ok (opV b) w :=
  results_cell_row h tmps _ g _ _ _ _ hp hg Tryd.underlying42 rfl (by kernel_rfl)
set_option maxRecDepth 100000 in
set_option maxHeartbeats 4000000 in
theorem copyop_any (b : OpS) (w : World) (hb : OpOk w b) :
    Calls Tryd.prog 28 #[opV b] w fun e w' => (∃ b' : OpS, e = .returned (opV b') ∧ b'.o = b.o ∧ OpOk w' b' ∧ ∀ a, b'.A = some a → w.heap.size ≤ a.block) ∧ Kept (fun _ => False) w w' := by
  have hK0 : Kept (fun _ => False) w (w.alloc (opO b)) := (Kept.refl _ w).alloc _
  have hR := rk_new (w.alloc (opO b)) #[.int .i64 b.o.kd, .int .i64 b.o.t, .int .i64 b.o.si, .int .i64 b.o.t0, .int .i64 b.o.s0, .int .i64 b.o.rn, .int .i64 b.o.st, .int .i64 b.o.nn, .slice b.A b.n b.c]
  have hk1 : Kept (fun _ => False) (w.alloc (opO b)) (((w.alloc (opO b)).alloc (.cells zOp 42)).alloc (.cells #[.int .i64 b.o.kd, .int .i64 b.o.t, .int .i64 b.o.si, .int .i64 b.o.t0, .int .i64 b.o.s0, .int .i64 b.o.rn, .int .i64 b.o.st, .int .i64 b.o.nn, .slice b.A b.n b.c] 42)) := ((Kept.refl _ _).alloc _).alloc _
  have h9 : Op9 (((w.alloc (opO b)).alloc (.cells zOp 42)).alloc (.cells #[.int .i64 b.o.kd, .int .i64 b.o.t, .int .i64 b.o.si, .int .i64 b.o.t0, .int .i64 b.o.s0, .int .i64 b.o.rn, .int .i64 b.o.st, .int .i64 b.o.nn, .slice b.A b.n b.c] 42)) ⟨w.heap.size, 0, none⟩ b := op9_new.kept hk1 id
  have hS := hb.seen.kept (hK0.trans hk1) (fun _ _ => id)
  have hKK := hK0.trans hk1
  rw [show (w.alloc (opO b)).heap.size = w.heap.size + 1 by simp] at hR
  have h9a : Op9 ((w.alloc (opO b)).alloc (.cells zOp 42)) ⟨w.heap.size, 0, none⟩ b := op9_new.kept ((Kept.refl (fun _ => False) _).alloc _) id
  have HB := Lib.hid hb
  clear hK0 hk1 hb
  unfold opV
  go_enter Tryd.func28, Tryd.ntmps28
  simp only [opO, zOp] at *
  obtain ⟨c0, c1, c2, c3, c4, c5, c6, c7, c8⟩ := h9a.cs
  have HR := Lib.hid hR
  have H9 := Lib.hid h9
  have HS := Lib.hid hS
  have HKK := Lib.hid hKK
  clear hR h9 hS hKK h9a
  go_upto_region 2 with fail
  clear c0 c1 c2 c3 c4 c5 c6 c7 c8
  generalize ((w.alloc (.cells #[.int .i64 b.o.kd, .int .i64 b.o.t, .int .i64 b.o.si, .int .i64 b.o.t0, .int .i64 b.o.s0, .int .i64 b.o.rn, .int .i64 b.o.st, .int .i64 b.o.nn, .slice b.A b.n b.c] 42)).alloc (.cells #[.int .i64 0, .int .i64 0, .int .i64 0, .int .i64 0, .int .i64 0, .int .i64 0, .int .i64 0, .int .i64 0, .slice none 0 0] 42)).alloc (.cells #[.int .i64 b.o.kd, .int .i64 b.o.t, .int .i64 b.o.si, .int .i64 b.o.t0, .int .i64 b.o.s0, .int .i64 b.o.rn, .int .i64 b.o.st, .int .i64 b.o.nn, .slice b.A b.n b.c] 42) = w1 at *
  generalize w.alloc (.cells #[.int .i64 b.o.kd, .int .i64 b.o.t, .int .i64 b.o.si, .int .i64 b.o.t0, .int .i64 b.o.s0, .int .i64 b.o.rn, .int .i64 b.o.st, .int .i64 b.o.nn, .slice b.A b.n b.c] 42) = w0 at *
  generalize hob : w.heap.size + 1 + 1 = ob at *
  generalize hrb : w.heap.size + 1 = rb at *
  generalize hpb : w.heap.size = pb at *
  have HN := Lib.hid (And.intro hpb (And.intro hrb hob))
  clear hpb hrb hob
  obtain ⟨c0, c1, c2, c3, c4, c5, c6, c7, c8⟩ := H9.out.cs
  have cN := copynum_any b.A b.n b.c b.o.seen w1 HS.out HB.out.n
  go_upto_region 3 with (go_at_call 56; refine cN.mono ?_; rintro e w2 ⟨⟨B, c', rfl, hN2, hB2, hcp2⟩, hk2⟩; have HK2 := Lib.hid hk2; have HN2 := Lib.hid hN2; have HB2 := Lib.hid hB2; have HCP2 := Lib.hid hcp2; have HR2 := Lib.hid (HR.out.keep hk2); obtain ⟨k8, f8⟩ := RkS.c8 HR2.out; clear hk2 hN2 hB2 hcp2)
  have HR3 := Lib.hid (HR2.out.set 8 (.slice B b.n c'))
  have hk3 : Kept (fun q => q = ob) w2 (w2.setCell ⟨ob, 8, none⟩ (.slice B b.n c')) := (Kept.refl (fun q => q = ob) w2).setCell (p := ⟨ob, 8, none⟩) rfl _
  have HK3 := Lib.hid hk3
  clear cN c0 c1 c2 c3 c4 c5 c6 c7 c8 k8 f8 HR2 hk3
  generalize w2.setCell ⟨ob, 8, none⟩ (.slice B b.n c') = w3 at *
  have h8 := RkS.cs (d0 := b.o.kd) (d1 := b.o.t) (d2 := b.o.si) (d3 := b.o.t0) (d4 := b.o.s0) (d5 := b.o.rn) (d6 := b.o.st) (d7 := b.o.nn) (v := .slice B b.n c') HR3.out
  obtain ⟨c0, c1, c2, c3, c4, c5, c6, c7, c8⟩ := h8
  have hzr := HR3.out.r
  obtain ⟨⟨d0, d1, d2, d3, d4, d5, d6, d7, d8⟩, e0, e1, e2, e3, e4, e5, e6, e7, e8⟩ := zcs hzr
  have HZR := Lib.hid hzr
  clear hzr
  go_wp2_with fail
  have hnb : ∀ a, B = some a → pb ≤ a.block ∧ ¬ a.block = ob ∧ ¬ a.block = rb := fun a ha => by
    have h1 := HB2.out a ha
    have h2 := heap_lt HR.out.o
    have := HN.out.2.1
    have := HN.out.2.2
    omega
  refine bodyPost_ret (res_op1 rfl _ _ rb ⟨b.o, B, b.n, c'⟩ (0, 0) rfl (nine HZR.out _ _ _ _ _ _ _ _ _)) rfl ⟨⟨⟨b.o, B, b.n, c'⟩, rfl, rfl, ⟨(HN2.out.kept HK3.out (fun a ha => (hnb a ha).2.1)).kept (Kept.nine (Kept.refl (fun q => q = rb) w3) rfl _ _ _ _ _ _ _ _ _) (fun a ha => (hnb a ha).2.2), HB.out.nums, HB.out.n, HCP2.out, HB.out.ints⟩, fun a ha => ?_⟩, ?_⟩
  · have := (hnb a ha).1
    have := HN.out.1
    omega
  · exact ((HKK.out.trans HK2.out).fresh HK3.out (fun q hq e => by have e : q = ob := e; have := HN.out; omega)).fresh (Kept.nine (Kept.refl (fun q => q = rb) w3) rfl _ _ _ _ _ _ _ _ _) (fun q hq e => by have e : q = rb := e; have := HN.out; omega)
theorem info_str : (Tryd.prog.info? 9).map (fun i => (i.zero, i.size, i.bytes)) = some (some (.string ⟨#[]⟩), 1, 16) := by kernel_rfl
theorem one_str {a : ByteArray} : ∀ u ∈ ([Value.string a] : List Value), u.oneCell' = true := by
  intro u hu
  simp only [List.mem_cons, List.not_mem_nil, or_false] at hu
  rcases hu with rfl
  rfl
theorem take_strs {ss : List ByteArray} {k : Nat} {x : ByteArray} (h : ss[k]? = some x) : (ss.take (k + 1)).map Value.string = (ss.take k).map Value.string ++ [.string x] := by
  rw [List.take_add_one, h]
  simp
end Go.Proofs.YthkohjijppbliaaDoor
