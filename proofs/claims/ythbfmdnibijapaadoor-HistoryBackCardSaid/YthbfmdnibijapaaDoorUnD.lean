/-
  TREES: whether one may be (where it may); a tree of one text; what a tree's text is.
-/
import Derived.Test.YthbfmdnibijapaaDoorUnC
import Derived.Laws.Slices
import Derived.Deep.Slices
import Derived.Laws.ResultCell
set_option linter.unusedVariables false
namespace Go.Proofs.YthbfmdnibijapaaDoor
open Go Go.RowKit

set_option maxRecDepth 100000 in
theorem run_ncut_h (w : World) (A : Option Addr) (n c hi : Nat) (H : Int) (hH : H = hi) (h2 : hi ≤ c) :
    (Instr.slice 22 (.slice A n c) none (some (.int .i64 H)) none).run Tryd.prog w = .ok (.slice A hi c) w := by
  subst hH
  rw [run_slice_h (P := Tryd.prog) w 22 A n c Tryd.underlying22 .i64 _ (by omega) (by omega)]
  have hz : ((sizeOf (Tryd.prog.elem 22)).run Tryd.prog w) = .ok 4 w := by kernel_rfl
  rw [hz]
  cases A with
  | none => simp [Result.andThen, sliced]
  | some a => simp [Result.andThen, sliced, Addr.add]
theorem Ng.take {w : World} {A : Option Addr} {n i : Nat} {L : List NodeS} (h : Ng w A n L) (hi : i ≤ n) : Ng w A i (L.take i) :=
  ⟨by rw [List.length_take, h.len]; omega, fun k e he => by
    rw [List.getElem?_take] at he
    split at he
    · exact h.at' k e he
    · cases he⟩
abbrev treeV (v : Value) (cur : Int) : Value := .agg #[v, .int .i64 cur]
abbrev treeO (v : Value) (cur : Int) : Obj := .cells #[v, .int .i64 cur] 24
/-- A node that may stand behind others. -/
def OkN (P : List NodeS) (e : NodeS) : Prop := Pl P e ∧ 0 ≤ e.at_ ∧ e.at_ ≤ 4000 ∧ mayB e.tx = true
/-- A tree that may be. -/
structure MayT (L : List NodeS) (cur : Int) : Prop where
  ge : 1 ≤ L.length
  le : L.length ≤ 64
  ok : ∀ i e, L[i]? = some e → OkN (L.take i) e
  cu : 0 ≤ idx L cur
theorem ok_srt {L : List NodeS} (h : ∀ i e, L[i]? = some e → OkN (L.take i) e) : Srt L := by
  have step : ∀ (d i : Nat) (a b : NodeS), L[i]? = some a → L[i + d + 1]? = some b → a.sq < b.sq := by
    intro d
    induction d with
    | zero =>
      intro i a b ha hb
      have h1 := (h (i + 0 + 1) b hb).1
      have h2 : (L.take (i + 0 + 1)).getLast? = some a := by
        have hl : i < L.length := by
          rcases Nat.lt_or_ge i L.length with h | h
          · exact h
          · rw [List.getElem?_eq_none h] at ha; cases ha
        rw [List.getLast?_eq_getElem?, List.length_take, List.getElem?_take, if_pos (by omega), show min (i + 0 + 1) L.length - 1 = i by omega]
        exact ha
      exact ((pl_some h2).1 h1).1
    | succ d ih =>
      intro i a b ha hb
      have hl : i + d + 1 + 1 < L.length := by
        rcases Nat.lt_or_ge (i + d + 1 + 1) L.length with h | h
        · exact h
        · rw [show i + (d + 1) + 1 = i + d + 1 + 1 by omega, List.getElem?_eq_none h] at hb; cases hb
      have hm : L[i + d + 1]? = some L[i + d + 1] := List.getElem?_eq_getElem (by omega)
      have h1 := ih i a _ ha hm
      have h2 := (h (i + (d + 1) + 1) b hb).1
      have h3 : (L.take (i + (d + 1) + 1)).getLast? = some L[i + d + 1] := by
        rw [List.getLast?_eq_getElem?, List.length_take, List.getElem?_take, if_pos (by omega), show min (i + (d + 1) + 1) L.length - 1 = i + d + 1 by omega]
        exact hm
      have h4 := ((pl_some h3).1 h2).1
      omega
  intro i j a b ha hb hij
  have := step (j - i - 1) i a b ha
  rw [show i + (j - i - 1) + 1 = j by omega] at this
  exact this hb
theorem srt_take {L : List NodeS} (h : Srt L) (i : Nat) : Srt (L.take i) := fun a b x y hx hy hab => by
  rw [List.getElem?_take] at hx hy
  split at hx
  · split at hy
    · exact h a b x y hx hy hab
    · cases hy
  · cases hx
theorem idx_lt {L : List NodeS} {z : Int} : idx L z < (L.length : Int) ∧ -1 ≤ idx L z := by
  unfold idx
  split
  · rename_i i h
    have := (List.findIdx?_eq_some_iff_getElem.1 h).1
    omega
  · omega
set_option maxRecDepth 100000 in
set_option maxHeartbeats 4000000 in
theorem tcheck_ok (A : Option Addr) (n c : Nat) (L : List NodeS) (cur : Int) (w : World) (hA : Ng w A n L) (hnc : n ≤ c) (hT : Tabs w) (hM : MayT L cur) :
    Calls Tryd.prog 59 #[treeV (.slice A n c) cur] w fun r w' => r = .returned (.int .i64 0) ∧ Kept (fun _ => False) w w' := by
  have hl := hA.len
  obtain ⟨hge, hle, hok, hcu⟩ := hM
  rw [hl] at hge hle
  have hs := ok_srt hok
  have hk0 : Kept (fun _ => False) w (w.alloc (treeO (.slice A n c) cur)) := (Kept.refl _ w).alloc _
  have HA := Lib.hid (hA.kept hk0 (fun _ _ => id))
  have HT := Lib.hid (hT.kept hk0 id id)
  have hTB : (w.alloc (treeO (.slice A n c) cur)).heap[w.heap.size]? = some (treeO (.slice A n c) cur) := heap_alloc_new w _
  have HTB : Hid (∀ W, Kept (fun _ => False) (w.alloc (treeO (.slice A n c) cur)) W → W.cell? ⟨w.heap.size, 0, none⟩ = some (.slice A n c) ∧ W.cell? ⟨w.heap.size, 1, none⟩ = some (.int .i64 cur)) := fun W hk => ⟨cell_kept hk (by rw [cell_of_row _ _ _ _ _ _ hTB]; rfl) id, cell_kept hk (by rw [cell_of_row _ _ _ _ _ _ hTB]; rfl) id⟩
  have HK0 := Lib.hid hk0
  have HOK := Lib.hid hok
  have HS := Lib.hid hs
  have cF := fun W (hW : Ng W A n L) => nfind_any A n c L cur W hW (by omega) hs
  obtain ⟨z, hz⟩ : ∃ z, idx L cur = z := ⟨_, rfl⟩
  rw [hz] at cF hcu
  have HL := Lib.hid hl
  clear hA hT hk0 hTB hok hs hz hl
  go_enter Tryd.func59, Tryd.ntmps59
  go_upto_region 1 with fail
  simp only [treeO] at HA HT HTB HK0
  generalize w.alloc _ = w0 at *
  generalize w.heap.size = tb at *
  obtain ⟨t0, t1⟩ := HTB.out w0 (Kept.refl _ _)
  have b1 : ((n : Int) == 0) = false := by rw [beq_eq_false_iff_ne]; omega
  have b2 : decide ((64 : Int) < (n : Int)) = false := decide_eq_false (by omega)
  have b3 : decide (64 < n) = false := decide_eq_false (by omega)
  go_wp2_with fail
  clear t0 t1 b1 b2 b3
  go_loopw [18] (fun v wr => ∃ i : Nat, i ≤ n ∧ v = .int .i64 i ∧ Kept (fun _ => False) w0 wr) (fun v _ => n - (intOf v).toNat)
  case atStart => exact ⟨0, Nat.zero_le _, rfl, Kept.refl _ _⟩
  case round =>
    obtain ⟨i, hi, rfl, hkr⟩ := hrel
    have HK := Lib.hid hkr
    clear hkr
    by_cases hlt : i < n
    · obtain ⟨ad, e, rfl, he, h4⟩ := (HA.out.kept HK.out (fun _ _ => id)).at_ hlt
      have hoke := HOK.out i e he
      have hic : i ≤ c := by omega
      have hPre := (HA.out.kept HK.out (fun _ _ => id)).take (show i ≤ n by omega)
      have HPR := Lib.hid hPre
      have f0 := h4.c0
      have f1 := h4.c1
      have f2 := h4.c2
      have f3 := h4.c3
      have HN : Hid (∀ W, Kept (fun _ => False) (wr.alloc (nodeO e)) W → Nd4 W ⟨wr.heap.size, 0, none⟩ e) := fun W hk => nd4_new.kept hk id
      have hk1 : Kept (fun _ => False) wr (wr.alloc (nodeO e)) := (Kept.refl _ wr).alloc _
      have HK1 := Lib.hid (HK.out.trans hk1)
      have HPR1 := Lib.hid (hPre.kept hk1 (fun _ _ => id))
      have b1 : decide ((i : Int) < (n : Int)) = true := decide_eq_true (by omega)
      have b2 : decide (i < n) = true := decide_eq_true hlt
      have t1 : (0 : Int) ≤ (i : Int) := by omega
      have t2 : (i : Int) < (n : Int) := by omega
      clear h4 hPre hk1 he
      go_upto_region 6 with fail
      clear f0 f1 f2 f3 b1 b2
      simp only [nodeO] at HN HK1 HPR1
      generalize wr.alloc _ = w1 at *
      generalize wr.heap.size = nb at *
      have cP := placed_any (some ad) i c (L.take i) e w1.drew (HPR1.out.kept (Kept.refl (fun _ => False) w1).drew (fun _ _ => id)) (by omega) (srt_take HS.out i)
      rw [decide_eq_true hoke.1] at cP
      have hsz := mayB_size hoke.2.2.2
      have cC := fun W (h : Tabs W) => check_any e.tx W (by omega) h
      rw [if_pos hoke.2.2.2] at cC
      have hcut := fun u => run_ncut_h u (some ad) n c i (i : Int) rfl hic
      have q1 : decide (e.at_ < 0) = false := decide_eq_false (by have := hoke.2.1; omega)
      have q2 : decide ((4000 : Int) < e.at_) = false := decide_eq_false (by have := hoke.2.2.1; omega)
      have KF : Hid (∀ W, Kept (fun _ => False) w1 W → W.cell? ⟨tb, 0, none⟩ = some (.slice (some ad) n c) ∧ W.cell? ⟨nb, 0, none⟩ = some (.int .i64 e.sq) ∧ W.cell? ⟨nb, 1, none⟩ = some (.int .i64 e.pa) ∧ W.cell? ⟨nb, 2, none⟩ = some (.int .i64 e.at_) ∧ W.cell? ⟨nb, 3, none⟩ = some (.string e.tx)) := fun W hk => ⟨(HTB.out W (HK1.out.trans hk)).1, (HN.out W hk).cs⟩
      have KA := KF.out w1.drew (Kept.refl _ w1).drew
      obtain ⟨sq, pa, at_, tx⟩ := e
      simp only at cP cC q1 q2 KF KA hsz
      clear hoke
      go_region_held3 (fun (W : World) => W.cell? ⟨tb, 0, none⟩ = some (.slice (some ad) n c) ∧ W.cell? ⟨nb, 0, none⟩ = some (.int .i64 sq) ∧ W.cell? ⟨nb, 1, none⟩ = some (.int .i64 pa) ∧ W.cell? ⟨nb, 2, none⟩ = some (.int .i64 at_) ∧ W.cell? ⟨nb, 3, none⟩ = some (.string tx))
        (first | with_reducible exact KC | with_reducible exact KB | with_reducible exact KA)
        (first
          | (go_at_call 68; refine cP.mono ?_; clear cP; rintro r w3 ⟨rfl, hk3⟩; have HK3 := Lib.hid ((Kept.refl (fun _ => False) w1).drew.trans hk3); have KB := KF.out w3 HK3.out; clear hk3)
          | (go_at_call 48; refine (cC _ (HT.out.kept (HK1.out.trans HK3.out) id id)).mono ?_; clear cC; rintro r w4 ⟨rfl, hk4⟩; have HK4 := Lib.hid (HK3.out.trans hk4); have KC := KF.out w4 HK4.out; clear hk4))
      go_wp2_with fail
      go_roundw
      case rel => exact ⟨i + 1, by omega, by go_num, HK1.out.trans HK4.out⟩
      case measure => simp [intOf]; omega
    · obtain rfl : i = n := by omega
      have b1 : decide ((i : Int) < (i : Int)) = false := by simp
      have b2 : decide (i < i) = false := by simp
      obtain ⟨t0, t1⟩ := HTB.out wr HK.out
      have cF1 := cF wr (HA.out.kept HK.out (fun _ _ => id))
      have q1 : decide (z < 0) = false := decide_eq_false (by omega)
      clear cF
      go_wp2_with (go_at_call 62; refine cF1.mono ?_; rintro r w3 ⟨rfl, hk3⟩; have HK3 := Lib.hid (HK.out.trans hk3); clear hk3 cF1)
      go_ret
      exact ⟨rfl, HK0.out.trans HK3.out⟩
end Go.Proofs.YthbfmdnibijapaaDoor
