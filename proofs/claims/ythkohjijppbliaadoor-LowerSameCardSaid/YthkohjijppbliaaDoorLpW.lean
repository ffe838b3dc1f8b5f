/-
  LOWER: what the law calls besides: Len, Apply, CopyElems.
-/
import Derived.Test.YthkohjijppbliaaDoorLpV
import Derived.Test.YthkohjijppbliaaDoorAoHn
set_option linter.unusedVariables false
namespace Go.Proofs.YthkohjijppbliaaDoor
open Go Go.RowKit

set_option maxRecDepth 100000 in
theorem rlen_any (s : ByteArray) (w : World) (h : s.size ≤ 1000000) : Calls Tryd.prog 20 #[.string s] w fun e w' => e = .returned (.int .i64 (rs s).length) ∧ Kept (fun _ => False) w w' := by
  obtain ⟨cap, w2, hcap, hcv, hk2, hlt, hR⟩ := conv_rs s w (by omega)
  generalize rs s = t at *
  have HK := Lib.hid hk2
  clear hk2 hR
  go_enter Tryd.func20, Tryd.ntmps20
  go_wp2
  go_ret
  exact ⟨rfl, HK.out⟩
theorem cutB_zero (A : Option Addr) (c : Nat) : cutB A c 0 = A := by
  unfold cutB
  split
  · rfl
  · cases A with
    | none => rfl
    | some a => simp [Addr.add]
theorem Rn.take {w : World} {A : Option Addr} {n m : Nat} {t : List Int} (h : Rn w A n t) (hm : m ≤ n) : Rn w A m (t.take m) := by
  refine ⟨by rw [List.length_take, h.1]; omega, fun j x hj => ?_⟩
  rw [List.getElem?_take] at hj
  split at hj
  · exact h.2 j x hj
  · cases hj
theorem Rn.drop {w : World} {A : Option Addr} {n c lo : Nat} {t : List Int} (h : Rn w A n t) (h1 : lo ≤ n) (hc : n ≤ c) : Rn w (cutB A c lo) (n - lo) (t.drop lo) := by
  have := h.cut h1 (Nat.le_refl n) hc
  rwa [List.take_of_length_le (by have := h.1; omega)] at this
theorem pat_facts {w : World} {g : Nat} {a d : Int} {s : ByteArray} (h : w.heap[g]? = some (patO a d s)) : w.cell? ⟨g, 0, none⟩ = some (.int .i64 a) ∧ w.cell? ⟨g, 1, none⟩ = some (.int .i64 d) ∧ w.cell? ⟨g, 2, none⟩ = some (.string s) :=
  ⟨by rw [cell_of_row _ _ _ _ _ _ h]; rfl, by rw [cell_of_row _ _ _ _ _ _ h]; rfl, by rw [cell_of_row _ _ _ _ _ _ h]; rfl⟩
set_option maxRecDepth 100000 in
theorem rapply_any (s : ByteArray) (pa pd : Nat) (ins : ByteArray) (w : World) (hs : s.size ≤ 20000) (hp : pa + pd ≤ (rs s).length) (hi : ins.size ≤ 100000) :
    Calls Tryd.prog 25 #[.string s, patV pa pd ins] w fun e w' => e = .returned (.string (runesBytes ((rs s).take pa) ++ ins ++ runesBytes ((rs s).drop (pa + pd)))) ∧ Kept (fun _ => False) w w' := by
  have hl := rs_len s
  have hka : Kept (fun _ => False) w (w.alloc (patO pa pd ins)) := (Kept.refl _ w).alloc _
  have HG0 : Hid ((w.alloc (patO pa pd ins)).heap[w.heap.size]? = some (patO pa pd ins)) := heap_alloc_new w _
  obtain ⟨cap, w2, hcap, hcv, hk2, hlt, hR⟩ := conv_rs s (w.alloc (patO pa pd ins)) (by omega)
  have hz : (w.alloc (patO pa pd ins)).heap.size = w.heap.size + 1 := by simp
  rw [hz] at hcv hR
  obtain ⟨f0, f1, f2⟩ := pat_facts ((hk2.block _ (heap_lt HG0.out) id).trans HG0.out)
  have hsA : (runesBytes ((rs s).take pa)).size ≤ 100000 := by
    rw [txt_size]
    have h1 : ∀ l : List Int, (Utf.bytes l).length ≤ 4 * l.length := fun l => by
      induction l with
      | nil => exact Nat.le_refl _
      | cons c l ih => show (Utf.enc c ++ Utf.bytes l).length ≤ _; have := (Utf.enc_length c).2; rw [List.length_append, List.length_cons]; omega
    have := h1 ((rs s).take pa)
    rw [List.length_take] at this
    omega
  have hsC : (runesBytes ((rs s).drop (pa + pd))).size ≤ 100000 := by
    rw [txt_size]
    have h1 : ∀ l : List Int, (Utf.bytes l).length ≤ 4 * l.length := fun l => by
      induction l with
      | nil => exact Nat.le_refl _
      | cons c l ih => show (Utf.enc c ++ Utf.bytes l).length ≤ _; have := (Utf.enc_length c).2; rw [List.length_append, List.length_cons]; omega
    have := h1 ((rs s).drop (pa + pd))
    rw [List.length_drop] at this
    omega
  generalize rs s = t at *
  have hcA := fun u => run_cut_h u (some ⟨w.heap.size + 1, 0, none⟩) t.length cap pa (pa : Int) rfl (by omega)
  have hcC := fun u => run_cut_l u (some ⟨w.heap.size + 1, 0, none⟩) t.length cap (pa + pd) ((pa : Int) + (pd : Int)) (by omega) hp hcap
  have hRA : Rn w2 (cutB (some ⟨w.heap.size + 1, 0, none⟩) cap 0) pa (t.take pa) := by rw [cutB_zero]; exact hR.take (by omega)
  have hRC : Rn w2 (cutB (some ⟨w.heap.size + 1, 0, none⟩) cap (pa + pd)) (t.length - (pa + pd)) (t.drop (pa + pd)) := hR.drop hp hcap
  generalize cutB (some ⟨w.heap.size + 1, 0, none⟩) cap 0 = CA at *
  generalize cutB (some ⟨w.heap.size + 1, 0, none⟩) cap (pa + pd) = CC at *
  have htA : ∀ r, (convert 90 9 (.slice CA pa cap)).run Tryd.prog (w2.drewN r) = .ok (.string (runesBytes (t.take pa))) (w2.drewN r) := fun r => run_txt (w := w2.drewN r) hRA
  have htC : ∀ r, (convert 90 9 (.slice CC (t.length - (pa + pd)) (cap - (pa + pd)))).run Tryd.prog (w2.drewN r) = .ok (.string (runesBytes (t.drop (pa + pd)))) (w2.drewN r) := fun r => run_txt (w := w2.drewN r) hRC
  generalize runesBytes (t.take pa) = SA at *
  generalize runesBytes (t.drop (pa + pd)) = SC at *
  have ad1 : ∀ u, (Op.stringOp .add SA ins).run Tryd.prog u = .ok (.string (SA ++ ins)) u := fun u => run_string_add_sum u SA ins (by omega)
  have ad2 : ∀ u, (Op.stringOp .add (SA ++ ins) SC).run Tryd.prog u = .ok (.string (SA ++ ins ++ SC)) u := fun u => run_string_add_sum u (SA ++ ins) SC (by rw [ByteArray.size_append]; omega)
  have hw1 : IntKind.i64.wrap ((pa : Int) + (pd : Int)) = (pa : Int) + (pd : Int) := IntWalk.i64_in _ ⟨by omega, by omega⟩
  have HK2 := Lib.hid (hka.trans hk2)
  clear hk2 hka hR hRA hRC
  go_enter Tryd.func25, Tryd.ntmps25
  go_upto_region 2 with fail
  go_quiet (fail)
  go_wp2
  go_ret
  exact ⟨rfl, HK2.out.drewN _⟩
set_option maxRecDepth 100000 in
set_option maxHeartbeats 1000000 in
theorem copyelems_any (v : Value) (L : List ElemS) (w : World) (h : Se w v L) (hn : L.length ≤ 90000) :
    Calls Tryd.prog 18 #[v] w fun e w' => (∃ v', e = .returned v' ∧ Oe w' w.heap.size v' L) ∧ Kept (fun _ => False) w w' := by
  obtain ⟨A, c, rfl, hA, _, _⟩ := h.open'
  obtain ⟨n, hN⟩ : ∃ n, L.length = n := ⟨_, rfl⟩
  rw [hN] at hn hA ⊢
  have HA := Lib.hid hA
  have HN := Lib.hid hN
  obtain ⟨B, hB⟩ : ∃ B, w.heap.size = B := ⟨_, rfl⟩
  have HB := Lib.hid hB
  rw [hB]
  clear h hA hN hB
  go_enter Tryd.func18, Tryd.ntmps18
  go_wp2_with fail
  go_loopw [3, 4] (fun v i wr => ∃ k : Nat, k ≤ n ∧ i = .int .i64 k ∧ Oe wr B v (L.take k) ∧ Kept (fun _ => False) w wr) (fun _ i _ => n - (intOf i).toNat)
  case atStart => exact ⟨0, Nat.zero_le _, rfl, World.ownsRow_nil _ _ _ _, Kept.refl _ _⟩
  case round =>
    obtain ⟨k, hk, rfl, hown, hkept⟩ := hrel
    have HK := Lib.hid hkept
    have HO := Lib.hid hown
    clear hkept hown
    by_cases hlt : k < n
    · obtain ⟨ad, e, rfl, he, h4⟩ := (HA.out.kept HK.out (fun _ _ => id)).at_ hlt
      have c0 := h4.c0
      have c1 := h4.c1
      have c2 := h4.c2
      have c3 := h4.c3
      have b1 : decide (k < n) = true := decide_eq_true hlt
      have b2 : decide ((k : Int) < (n : Int)) = true := decide_eq_true (by omega)
      have t1 : (0 : Int) ≤ (k : Int) := by omega
      have t2 : (k : Int) < (n : Int) := by omega
      have HST := Lib.hid (take_snoc he)
      have HLL : Hid ((L.take k).length + 1 ≤ 100000) := by show _ ≤ _; rw [List.length_take]; omega
      have HBW : Hid (∀ o, B ≤ (wr.alloc o).heap.size) := fun o => by have := HB.out; have := HK.out.size; simp; omega
      generalize L.take k = X at *
      obtain ⟨et, es, x, d⟩ := e
      simp only at c0 c1 c2 c3
      clear he h4
      go_wp2_with (at_builtin; refine wpList_app_els rfl (.tmp 11) (.tmp 16) rfl B _ X rfl (HO.out.alloc _) _ 1 1 [⟨et, es, x, d⟩] rfl (one_el wr ⟨et, es, x, d⟩) (fun h => by cases h) HLL.out (HBW.out _) ?_; intro v5 w5 hown5 hgrow5 hat5; have HO5 := Lib.hid hown5; have HK5 := Lib.hid (Kept.grew (HK.out.alloc _) hgrow5 (fun q hq => by have := (HO.out.lt q hq).1; have := HB.out; omega)); clear hown5 hgrow5 hat5)
      go_roundw
      case rel => exact ⟨k + 1, by omega, by go_num, by rw [HST.out]; exact HO5.out, HK5.out⟩
      case measure => simp [intOf] <;> omega
    · obtain rfl : k = n := by omega
      have b1 : decide (k < k) = false := decide_eq_false (by omega)
      have b2 : decide ((k : Int) < (k : Int)) = false := decide_eq_false (by omega)
      have hall : L.take k = L := List.take_of_length_le (by rw [HN.out]; exact Nat.le_refl _)
      rw [hall] at HO
      clear hall
      go_wp2_with fail
      go_ret
      exact ⟨⟨_, rfl, HO.out⟩, HK.out⟩
end Go.Proofs.YthkohjijppbliaaDoor
