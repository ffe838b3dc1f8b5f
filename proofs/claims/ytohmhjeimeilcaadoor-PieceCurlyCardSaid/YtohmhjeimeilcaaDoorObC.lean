/-
  THE CELLS OF A TEXT, as the program tells them: their offsets and their classes.
-/
import Derived.Test.YtohmhjeimeilcaaDoorWdC2
import Derived.Test.YtohmhjeimeilcaaDoorRunesK
import Derived.Maps.AppendAt
import Derived.Laws.OwnMore
set_option linter.unusedVariables false
namespace Go.Proofs.YtohmhjeimeilcaaDoor
open Go Go.RowKit

def ats (l : List Nat) : List Int := l.map fun (i : Nat) => (i : Int)
def kls (t : List Int) (big : Bool) (l : List Nat) : List Int := l.map (Rw.at_ t big)
/-- Two slices that don't lie in one row. -/
def Apart (v u : Value) : Prop := u.ownBlock = none ∨ u.ownBlock ≠ v.ownBlock
theorem Apart.symm {v u : Value} (h : Apart v u) : Apart u v := by
  unfold Apart at *
  rcases h with h | h
  · cases hv : v.ownBlock with
    | none => exact .inl rfl
    | some k => right; rw [h]; intro e; cases e
  · exact .inr fun e => h e.symm
theorem Apart.kept {w w1 : World} {o : Obj} {base : Nat} {e e' : TypeId} {n n' s s' : Nat} {v v' u : Value} {xs ys : List Value} (h : Apart v u) (hu : w.ownsRow base e s u n xs) (hv : w.ownsRow base e' s' v n' ys) (hg : (w.alloc o).grownBy w1 v.ownBlock) (hat : v'.ownBlock = v.ownBlock ∨ v'.ownBlock = some (w.alloc o).heap.size) : w1.ownsRow base e s u n xs ∧ Apart v' u := by
  refine ⟨(hu.alloc o).kept hg h, ?_⟩
  rcases hat with hat | hat
  · unfold Apart; rw [hat]; exact h
  · unfold Apart
    cases hb : u.ownBlock with
    | none => exact .inl rfl
    | some k =>
      right
      rw [hat]
      intro e
      injection e with e
      have := (hu.lt k hb).2
      simp at e
      omega
theorem one_cell {W : World} {a : Int} {ty : TypeId} : ∀ j u, ([Value.int .i64 a] : List Value)[j]? = some u → (W.alloc (.cells #[.int .i64 a] ty)).cell? ((⟨W.heap.size, 0, none⟩ : Addr).add j) = some u := by
  intro j u hj
  rw [addr_add, cell_of_row _ _ _ _ _ _ (heap_alloc_new W _)]
  match j, hj with
  | 0, hj => simpa using hj
theorem one_one {a : Int} : ∀ u ∈ ([Value.int .i64 a] : List Value), u.oneCell' = true := by
  intro u hu
  simp only [List.mem_singleton] at hu
  subst hu
  rfl
theorem own_at2 {w : World} {base : Nat} {v : Value} {l : List Nat} {k i : Nat} (hi : l[k]? = some i) (h : w.ownsRow base 3 1 v (k + 1) ((ats (l.take k)).map (Value.int .i64) ++ [.int .i64 (i : Int)])) : w.ownsRow base 3 1 v (k + 1) ((ats (l.take (k + 1))).map (Value.int .i64)) := by
  unfold ats at *
  rw [List.take_add_one, hi, List.map_append, List.map_append]
  exact h
theorem own_kls2 {w : World} {base : Nat} {v : Value} {t : List Int} {big : Bool} {l : List Nat} {k i : Nat} {q : Int} (hi : l[k]? = some i) (hq : q = Rw.at_ t big i) (h : w.ownsRow base 3 1 v (k + 1) ((kls t big (l.take k)).map (Value.int .i64) ++ [.int .i64 q])) : w.ownsRow base 3 1 v (k + 1) ((kls t big (l.take (k + 1))).map (Value.int .i64)) := by
  unfold kls at *
  rw [List.take_add_one, hi, List.map_append, List.map_append]
  subst hq
  exact h
set_option maxRecDepth 100000 in
set_option maxHeartbeats 1000000 in
theorem pcells_yes (s : ByteArray) (big : Bool) (w : World) (hT : Tabs w) (hm : mayB s = true) :
    Calls Tryd.prog 57 #[.string s, .bool big] w fun e w' => Kept (fun _ => False) w w' ∧ ∃ v1 v2 B, e = .returned (.tuple #[v1, v2, .int .i64 0]) ∧ w.heap.size ≤ B ∧ B ≤ w'.heap.size ∧ w'.ownsRow B 3 1 v1 (Rw.cel (rs s) ((rs s).length + 1)).length ((ats (Rw.cel (rs s) ((rs s).length + 1))).map (Value.int .i64)) ∧ w'.ownsRow B 3 1 v2 (Rw.cel (rs s) ((rs s).length + 1)).length ((kls (rs s) big (Rw.cel (rs s) ((rs s).length + 1))).map (Value.int .i64)) ∧ Apart v1 v2 := by
  obtain ⟨i0, hi, hz0, hz1, hz2⟩ := info_parts info_int
  have cU := runes_yes s 0 w hT hm (Nat.zero_le _)
  have hl := rs_len s
  have hsz := mayB_size hm
  have hr := rs_runey (mayB_valid hm)
  generalize rs s = t at *
  have HR := Lib.hid hr
  clear hT hm hr
  obtain ⟨l, hll⟩ : ∃ l, Rw.cel t (t.length + 1) = l := ⟨_, rfl⟩
  have hlm := Rw.cel_len t (t.length + 1)
  rw [hll] at hlm
  have HLL := Lib.hid hll
  rw [hll]
  clear hll
  generalize hm : l.length = m at *
  have HM := Lib.hid hm
  clear hm
  go_enter Tryd.func57, Tryd.ntmps57
  go_wp2_with (first | (go_at_call 32; refine cU.mono ?_; rintro e w1 ⟨hk1, bb, cap, rfl, hbg, hR⟩; have HK1 := Lib.hid hk1; have HN := Lib.hid hR; clear cU hk1 hR hbg))
  refine (cells_any (some ⟨bb, 0, none⟩) t.length cap t big w1 HN.out HR.out (by omega)).mono ?_
  rintro e w2 ⟨hk2, g, cap2, rfl, hg, hC⟩
  have HK2 := Lib.hid (HK1.out.trans hk2)
  rw [HLL.out] at hC ⊢
  rw [HM.out]
  have HC := Lib.hid hC
  clear hk2 hC hg HK1
  go_wp2_with fail
  go_loopw [4, 5, 22] (fun v u i wr => ∃ k : Nat, k ≤ m ∧ i = .int .i64 k ∧ wr.ownsRow w2.heap.size 3 1 v k ((ats (l.take k)).map (Value.int .i64)) ∧ wr.ownsRow w2.heap.size 3 1 u k ((kls t big (l.take k)).map (Value.int .i64)) ∧ Apart v u ∧ Kept (fun _ => False) w2 wr) (fun _ _ i _ => m - (intOf i).toNat)
  case atStart => exact ⟨0, Nat.zero_le _, rfl, World.ownsRow_nil _ _ _ _, World.ownsRow_nil _ _ _ _, .inl rfl, Kept.refl _ _⟩
  case round =>
    obtain ⟨k, hk, rfl, hown, hown2, hap, hkept⟩ := hrel
    have HK := Lib.hid hkept
    have HCW := Lib.hid (HC.out.kept hkept id)
    have hsz2 := hkept.size
    have HSZ := Lib.hid hsz2
    clear hkept hsz2
    by_cases hkm : k < m
    · obtain ⟨o, ho⟩ : ∃ o, l[k]? = some o := ⟨_, List.getElem?_eq_getElem (by rw [HM.out]; exact hkm)⟩
      have h0 := HCW.out.c0 k o ho
      have h1 := HCW.out.c1 k o ho
      have h2 := HCW.out.c2 k o ho
      have h3 := HCW.out.c3 k o ho
      have HO := Lib.hid ho
      clear ho
      obtain ⟨q, hq⟩ : ∃ q, Rw.at_ t big o = q := ⟨_, rfl⟩
      obtain ⟨F, hF⟩ : ∃ F, decide (Rw.beg t o = o) = F := ⟨_, rfl⟩
      obtain ⟨G, hG⟩ : ∃ G, Rw.lastB t o = G := ⟨_, rfl⟩
      rw [hq] at h1
      rw [hF] at h2
      rw [hG] at h3
      have HQ := Lib.hid hq.symm
      clear hq hF hG
      obtain ⟨xs, hxs⟩ : ∃ xs, (ats (l.take k)).map (Value.int .i64) = xs := ⟨_, rfl⟩
      obtain ⟨ys, hys⟩ : ∃ ys, (kls t big (l.take k)).map (Value.int .i64) = ys := ⟨_, rfl⟩
      rw [hxs] at hown
      rw [hys] at hown2
      have HXS := Lib.hid hxs
      have HYS := Lib.hid hys
      clear hxs hys
      go_upto_region 7 with fail
      have hb := heap_alloc_new wr (.cells #[.int .i64 (o : Int), .int .i64 q, .bool F, .bool G] 98)
      have hkw : Kept (fun _ => False) wr (wr.alloc (.cells #[.int .i64 (o : Int), .int .i64 q, .bool F, .bool G] 98)) := (Kept.refl _ wr).alloc _
      have hownA := hown.alloc (.cells #[.int .i64 (o : Int), .int .i64 q, .bool F, .bool G] 98)
      have hownB := hown2.alloc (.cells #[.int .i64 (o : Int), .int .i64 q, .bool F, .bool G] 98)
      have hlt := hown.lt
      have hsz1 : wr.heap.size < (wr.alloc (.cells #[.int .i64 (o : Int), .int .i64 q, .bool F, .bool G] 98)).heap.size := by simp
      generalize wr.alloc (.cells #[.int .i64 (o : Int), .int .i64 q, .bool F, .bool G] 98) = W1 at *
      have HK1 := Lib.hid (HK.out.trans hkw)
      have HSZ1 := Lib.hid (HK1.out.size)
      generalize wr.heap.size = nb at *
      have f0 : W1.cell? ⟨nb, 0, none⟩ = some (.int .i64 (o : Int)) := by rw [cell_of_row _ _ _ _ _ _ hb]; rfl
      have f1 : W1.cell? ⟨nb, 1, none⟩ = some (.int .i64 q) := by rw [cell_of_row _ _ _ _ _ _ hb]; rfl
      have HLT := Lib.hid hlt
      clear h0 h1 h2 h3 hown hown2 hkw hb hsz1 hlt
      go_wp2_with (first
        | (at_builtin; refine wpList_append_own_at _ rfl (.tmp 26) (.tmp 29) 38 rfl w2.heap.size 3 i0 (.int .i64 0) 1 8 Tryd.underlying38 hi hz0 hz1 hz2 rfl (by decide) _ _ _ rfl (hownA.alloc _) ⟨_, 0, none⟩ 1 1 [.int .i64 (o : Int)] rfl rfl one_cell one_one (by unfold maxLen; omega) (by omega) (by have := HSZ1.out; simp; omega) ?_; intro v' w3 hown' hgrow _ hat; have ha := (hap.kept hownB hownA hgrow hat); have HK3 := Lib.hid (Kept.grew (HK1.out.alloc (.cells #[.int .i64 (o : Int)] 3)) hgrow (fun q hq => (hownA.lt q hq).1)); have hownC := ha.1; have hap1 := ha.2; have HSZ3 := Lib.hid HK3.out.size; have f2 : w3.cell? ⟨nb, 1, none⟩ = some (.int .i64 q) := hgrow.cell (cell_kept ((Kept.refl (fun _ => False) W1).alloc _) f1 id) (fun e => by have := (HLT.out nb e.symm).2; omega); clear hownB hownA hgrow hat hap ha f1 f0)
        | (at_builtin; refine wpList_append_own_at _ rfl (.tmp 31) (.tmp 34) 38 rfl w2.heap.size 3 i0 (.int .i64 0) 1 8 Tryd.underlying38 hi hz0 hz1 hz2 rfl (by decide) _ _ _ rfl (hownC.alloc _) ⟨_, 0, none⟩ 1 1 [.int .i64 q] rfl rfl one_cell one_one (by unfold maxLen; omega) (by omega) (by have := HSZ3.out; simp; omega) ?_; intro v2 w4 hown3 hgrow _ hat; have ha := (hap1.symm.kept hown' hownC hgrow hat); have HK4 := Lib.hid (Kept.grew (HK3.out.alloc (.cells #[.int .i64 q] 3)) hgrow (fun q hq => (hownC.lt q hq).1)); have hownD := ha.1; have hap2 := ha.2.symm; clear hown' hownC hgrow hat hap1 ha f2))
      rw [← HXS.out] at hownD
      rw [← HYS.out] at hown3
      have HO1 := Lib.hid (own_at2 HO.out hownD)
      have HO2 := Lib.hid (own_kls2 HO.out HQ.out hown3)
      clear hownD hown3
      go_roundw
      case rel => exact ⟨k + 1, by omega, by go_num, HO1.out, HO2.out, hap2, HK4.out⟩
      case measure => simp [intOf] <;> omega
    · obtain rfl : k = m := by omega
      have ht : l.take k = l := List.take_of_length_le (by rw [HM.out]; exact Nat.le_refl _)
      rw [ht] at hown hown2
      have HO1 := Lib.hid hown
      have HO2 := Lib.hid hown2
      clear hown hown2 ht
      go_wp2
      exact bodyPost_ret (v := .tuple #[_, _, .int .i64 0]) (by simp [results, Tryd.results57, go_sem]) rfl ⟨HK2.out.trans HK.out, _, _, w2.heap.size, rfl, HK2.out.size, HK.out.size, HO1.out, HO2.out, hap⟩
end Go.Proofs.YtohmhjeimeilcaaDoor
