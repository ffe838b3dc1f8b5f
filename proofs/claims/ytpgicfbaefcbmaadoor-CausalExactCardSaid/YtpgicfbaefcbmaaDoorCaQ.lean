/-
  CAUSAL ORDER: the law's op; the first numbers of an ask; the plain runs.
-/
import Derived.Test.YtpgicfbaefcbmaaDoorCaP

set_option linter.unusedVariables false
namespace Go.Proofs.YtpgicfbaefcbmaaDoor
open Go Go.RowKit

theorem own_numsQ {w : World} {B n : Nat} {v : Value} {xs : List Int} (h : w.ownsRow B 3 1 v n (xs.map (.int .i64))) (hl : xs.length = n) : ∃ A c, v = .slice A n c ∧ (∀ a, A = some a → B ≤ a.block) ∧ Nums w A n xs ∧ n ≤ c := by
  have hcells : ∀ g, v.ownBlock = some g → ∀ j u, (xs.map (Value.int .i64))[j]? = some u → w.cell? ((⟨g, 0, none⟩ : Addr).add j) = some u := fun g hg => h.cells hg
  rcases h.2 with ⟨rfl, rfl⟩ | ⟨g, cap, cur, rfl, hb, _, hc, _⟩
  · obtain rfl := List.eq_nil_of_length_eq_zero hl
    exact ⟨none, 0, rfl, (fun a ha => by cases ha), ⟨rfl, fun j x hj => by simp at hj⟩, Nat.le_refl _⟩
  · exact ⟨_, cap, rfl, (fun a ha => by cases ha; exact hb), ⟨hl, fun j x hj => ⟨_, rfl, hcells g rfl j _ (by rw [List.getElem?_map, hj]; rfl)⟩⟩, hc⟩
/-- The op that the law makes. -/
def mk1 (st nn : Int) (l : List Int) : Cd.OpP := ⟨2, 1, 0, 0, 0, 0, st, nn, l⟩
set_option maxRecDepth 100000 in
set_option maxHeartbeats 4000000 in
theorem lop_any (st nn : Int) (ad : Addr) (n c : Nat) (l : List Int) (w : World) (hA : Nums w (some ad) n l) (hn : n ≤ 1000) (hI : ∀ x ∈ l, I64 x) (hs : I64 st) (hnn : I64 nn) :
    Calls Tryd.prog 36 #[.int .i64 st, .int .i64 nn, .slice (some ad) n c] w fun e w' => (∃ b : OpS, b.o = mk1 st nn l ∧ e = .returned (opV b) ∧ OpOk w' b ∧ ∀ a, b.A = some a → w.heap.size ≤ a.block) ∧ Kept (fun _ => False) w w' := by
  obtain ⟨i0, hi, hz0, hz1, hz2⟩ := info_parts info_int
  have hk0 : Kept (fun _ => False) w (w.alloc (.cells zOp 32)) := (Kept.refl _ w).alloc _
  have hA0 := hA.kept hk0 (fun _ _ => id)
  have HZ0 : Hid ((w.alloc (.cells zOp 32)).heap[w.heap.size]? = some (.cells zOp 32 (0, 0))) := heap_alloc_new w _
  have HK0 := Lib.hid hk0
  have HSZ : Hid (w.heap.size < (w.alloc (.cells zOp 32)).heap.size) := by show _ < _; simp
  have hl := hA.1
  unfold zOp at hA0 HZ0 HK0 HSZ
  clear hA hk0
  go_enter Tryd.func36, Tryd.ntmps36
  go_upto_region 1 with fail
  generalize w.alloc (.cells #[.int .i64 0, .int .i64 0, .int .i64 0, .int .i64 0, .int .i64 0, .int .i64 0, .int .i64 0, .int .i64 0, .slice none 0 0] 32) = w1 at *
  generalize hpb : w.heap.size = pb at *
  have HPB := Lib.hid hpb
  clear hpb
  have hown : (w1.alloc (.cells #[] 3)).ownsRow w1.heap.size 3 1 (.slice (some ⟨w1.heap.size, 0, none⟩) 0 0) 0 ([] : List Value) :=
    World.ownsRow_lit (base := w1.heap.size) (e := 3) (size := 1) w1 #[] 0 (Nat.le_refl _) (by decide) rfl
  have hk : Kept (fun _ => False) w1 (w1.alloc (.cells #[] 3)) := (Kept.refl _ w1).alloc _
  have hA' := hA0.kept hk (fun _ _ => id)
  have hz : w1.heap.size ≤ (w1.alloc (.cells #[] 3)).heap.size := hk.size
  have HK := Lib.hid hk
  clear hk
  go_wp2_with (at_builtin; refine wpList_append_own _ rfl _ _ 30 rfl w1.heap.size 3 i0 (.int .i64 0) 1 8 Tryd.underlying30 hi hz0 hz1 hz2 rfl (by decide) _ _ _ rfl hown ad n c (l.map (Value.int .i64)) rfl (by rw [List.length_map, hl, Nat.mul_one]) (nums_news hA') (int_ones l) (by unfold maxLen; omega) (by omega) hz ?_; intro v' w2 hown' hgrow hnil; obtain ⟨A', c', rfl, hB, hN, hc⟩ := own_numsQ (n := 0 + n) (xs := l) (by simpa using hown') (by rw [hl, Nat.zero_add]); have HBA := Lib.hid hB; have HNA := Lib.hid hN; have HCA := Lib.hid hc; clear hB hN hc; have hK2 : Kept (fun _ => False) w1 w2 := Kept.grew HK.out hgrow (fun q hq => (hown.lt q hq).1); have HK2 := Lib.hid hK2; have hz2 := (hK2.block pb (heap_lt HZ0.out) id).trans HZ0.out; have HZ2 := Lib.hid hz2; obtain ⟨⟨c0, c1, c2, c3, c4, c5, c6, c7, c8⟩, f0, f1, f2, f3, f4, f5, f6, f7, f8⟩ := zcs hz2; clear hown' hgrow hnil hown hA' hz hz2 hK2)
  have hkn := Kept.nine (Kept.refl (fun q => q = pb) w2) rfl (.int .i64 2) (.int .i64 1) (.int .i64 0) (.int .i64 0) (.int .i64 0) (.int .i64 0) (.int .i64 st) (.int .i64 nn) (.slice A' n c')
  have hne : ∀ a, A' = some a → ¬ a.block = pb := fun a ha e => by
    have h1 := HBA.out a ha
    have h2 := HSZ.out
    omega
  have hNA := HNA.out
  have hCA := HCA.out
  rw [Nat.zero_add] at hNA hCA
  refine bodyPost_ret (results_cell_row rfl _ _ pb _ _ (0, 0) _ rfl (nine HZ2.out _ _ _ _ _ _ _ _ _) Tryd.underlying32 rfl (by kernel_rfl)) rfl ⟨⟨⟨mk1 st nn l, A', n, c'⟩, rfl, rfl, ⟨hNA.kept hkn hne, hI, by show n ≤ _; omega, hCA, ?_⟩, fun a ha => ?_⟩, (HK0.out.trans HK2.out).fresh hkn (fun q hq e => by have e : q = pb := e; have h := HPB.out; omega)⟩
  · unfold I64s mk1
    unfold I64 at *
    exact ⟨by simp, by simp, by simp, by simp, by simp, by simp, hs, hnn⟩
  · have h1 := HBA.out a ha
    have h2 := HK0.out.size
    omega
end Go.Proofs.YtpgicfbaefcbmaaDoor
