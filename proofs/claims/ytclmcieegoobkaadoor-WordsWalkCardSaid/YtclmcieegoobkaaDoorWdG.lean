/-
  THE CELLS OF A TEXT, as the program tells them: their offsets and their classes; two lists compared; a list written over.
-/
import Derived.Test.YtclmcieegoobkaaDoorWdK
import Derived.Laws.OwnMore
set_option linter.unusedVariables false
namespace Go.Proofs.YtclmcieegoobkaaDoor
open Go Go.RowKit

/-- The same list twice. -/
theorem eqnum_yes (A B : Option Addr) (n c c' : Nat) (xs : List Int) (w : World) (hA : Nums w A n xs) (hB : Nums w B n xs) (hn : n ≤ 17592186044416) :
    Calls Tryd.prog 30 #[.slice A n c, .slice B n c'] w fun e w' => e = .returned (.bool true) ∧ ∃ k, w' = w.drewN k := by
  have HA := Lib.hid hA
  have HB := Lib.hid hB
  clear hA hB
  go_enter Tryd.func30, Tryd.ntmps30
  go_wp2
  go_loopw [5] (fun v wr => ∃ k q : Nat, k ≤ n ∧ v = .int .i64 k ∧ wr = w.drewN q) (fun v _ => n - (intOf v).toNat)
  case atStart => exact ⟨0, 0, Nat.zero_le _, rfl, rfl⟩
  case round =>
    obtain ⟨k, q, hk, rfl, rfl⟩ := hrel
    by_cases hkn : k < n
    · obtain ⟨a, x, rfl, hx, hc⟩ := HA.out.cell hkn
      obtain ⟨b, y, rfl, hy, hd⟩ := HB.out.cell hkn
      have hxy : y = x := by rw [hx] at hy; injection hy with hy; exact hy.symm
      subst hxy
      clear hx hy
      have hc' : (w.drewN q).cell? (a.add k) = some (.int .i64 y) := hc
      have hd' : (w.drewN q).cell? (b.add k) = some (.int .i64 y) := hd
      go_wp2_with fail
      go_quiet (fail)
      go_wp2
      go_roundw
      case rel => exact ⟨k + 1, _, by omega, by go_num, rfl⟩
      case measure => simp [intOf]; omega
    · obtain rfl : k = n := by omega
      go_wp2
      go_ret
      exact ⟨rfl, q, rfl⟩

set_option maxRecDepth 100000 in
/-- A list of the call's own, written over. -/
theorem numbers_any (B : Nat) (v : Value) (n : Nat) (xs : List Value) (w : World) (hown : w.ownsRow B 3 1 v n xs) (hn : n ≤ 100000) (hB : B ≤ w.heap.size) :
    Calls Tryd.prog 31 #[v] w fun e w' => e = .returned (.tuple #[]) ∧ Kept (fun k => v.ownBlock = some k) w w' := by
  obtain ⟨i0, hi, hz0, hz1, hz2⟩ := info_parts info_int
  have HB := Lib.hid hB
  clear hB
  rcases id hown.2 with ⟨rfl, rfl⟩ | ⟨g, cap, cur, rfl, hg, hgg, hcap, hcm, hcs, ht⟩
  · clear hown
    go_enter Tryd.func31, Tryd.ntmps31
    go_wp2
    go_loopw [2] (fun i wr => i = .int .i64 ((0 : Nat) : Int) ∧ wr = w) (fun _ _ => 0)
    case atStart => exact ⟨rfl, rfl⟩
    case round =>
      obtain ⟨rfl, rfl⟩ := hrel
      have HK0 : Hid (Kept (fun _ => False) wr wr) := Kept.refl _ _
      go_wp2_with (at_builtin; refine wpList_append_own _ rfl _ _ 41 rfl B 3 i0 (.int .i64 0) 1 8 Tryd.underlying41 hi hz0 hz1 hz2 rfl (by decide) (.slice none 0 0) 0 [] rfl (World.ownsRow_nil _ _ _ _) ⟨_, 0, none⟩ 1 1 [.int .i64 5] rfl rfl one_cell one_one (by unfold maxLen; omega) (by omega) (by have := HB.out; simp; omega) ?_; intro v' w1 hown' hgrow _; have HK := Lib.hid (Kept.grew (HK0.out.alloc (.cells #[.int .i64 5] 3)) hgrow (fun k hk => by cases hk)); clear hown' hgrow)
      go_end0
      exact ⟨rfl, HK.out.any⟩
  · have HO := Lib.hid hown
    clear hown hgg hcs ht
    go_enter Tryd.func31, Tryd.ntmps31
    go_wp2
    go_loopw [2] (fun i wr => ∃ (k : Nat) (xs' : List Value), k ≤ n ∧ i = .int .i64 k ∧ wr.ownsRow B 3 1 (.slice (some ⟨g, 0, none⟩) n cap) n xs' ∧ Kept (fun b => b = g) w wr) (fun i _ => n - (intOf i).toNat)
    case atStart => exact ⟨0, xs, Nat.zero_le _, rfl, HO.out, Kept.refl _ _⟩
    case round =>
      obtain ⟨k, xs', hk, rfl, hown, hkept⟩ := hrel
      have HK := Lib.hid hkept
      clear hkept
      by_cases hkn : k < n
      · have hlen : k < xs'.length := by rw [hown.1]; omega
        have hcell : wr.cell? ⟨g, k, none⟩ = some xs'[k] := by rw [hown.cellAt k (by omega)]; exact List.getElem?_eq_getElem hlen
        have hfr : wr.frozen? ⟨g, k, none⟩ = false := hown.frozenAt k
        have hst := (hown.stored k (.int .i64 (-99))).1
        have HK2 := Lib.hid (HK.out.setCell (p := ⟨g, k, none⟩) rfl (.int .i64 (-99)))
        have HS := Lib.hid hst
        clear hst hown
        go_wp2
        go_roundw
        case rel => exact ⟨k + 1, _, by omega, by go_num, HS.out, HK2.out⟩
        case measure => simp [intOf] <;> omega
      · obtain rfl : k = n := by omega
        go_wp2_with (at_builtin; refine wpList_append_own _ rfl _ _ 41 rfl B 3 i0 (.int .i64 0) 1 8 Tryd.underlying41 hi hz0 hz1 hz2 rfl (by decide) _ _ _ rfl (hown.alloc _) ⟨_, 0, none⟩ 1 1 [.int .i64 5] rfl rfl one_cell one_one (by unfold maxLen; omega) (by omega) (by have := HB.out; have := HK.out.size; simp; omega) ?_; intro v' w1 hown' hgrow _; have HK1 := Lib.hid ((HK.out.alloc (.cells #[.int .i64 5] 3)).over (T := fun b => b = g) ⟨hgrow.os, hgrow.tape, hgrow.output, hgrow.size, fun b hb hne => hgrow.block b hb (fun e => hne (by injection e))⟩ (fun _ _ h => h)); clear hown' hgrow)
        go_end0
        exact ⟨rfl, HK1.out.mono (fun b _ h => by subst h; rfl)⟩
/-- The program's cells, told. -/
theorem pcells_no (s : ByteArray) (big : Bool) (w : World) (hs : s.size ≤ 140737488351232) (hT : Tabs w) (hm : mayB s = false) :
    Calls Tryd.prog 27 #[.string s, .bool big] w fun e w' => Kept (fun _ => False) w w' ∧ e = .returned (.tuple #[.slice none 0 0, .slice none 0 0, .int .i64 1]) := by
  have cU := runes_no s 0 w hs hT (fun h => by rw [hm] at h; cases h.1)
  clear hT hm
  go_enter Tryd.func27, Tryd.ntmps27
  go_wp2_with (go_at_call 51; refine cU.mono ?_; rintro e w2 ⟨hk2, rfl⟩)
  exact bodyPost_ret (v := .tuple #[.slice none 0 0, .slice none 0 0, .int .i64 1]) (by simp [results, Tryd.results27, go_sem]) rfl ⟨hk2, rfl⟩
theorem own_at2 {w : World} {base : Nat} {v : Value} {l : List Nat} {k i : Nat} (hi : l[k]? = some i) (h : w.ownsRow base 3 1 v (k + 1) ((ats (l.take k)).map (Value.int .i64) ++ [.int .i64 (i : Int)])) : w.ownsRow base 3 1 v (k + 1) ((ats (l.take (k + 1))).map (Value.int .i64)) := by
  unfold ats at *
  rw [List.take_add_one, hi, List.map_append, List.map_append]
  exact h
theorem own_kls2 {w : World} {base : Nat} {v : Value} {t : List Int} {big : Bool} {l : List Nat} {k i : Nat} {q : Int} (hi : l[k]? = some i) (hq : q = Rw.at_ t big i) (h : w.ownsRow base 3 1 v (k + 1) ((kls t big (l.take k)).map (Value.int .i64) ++ [.int .i64 q])) : w.ownsRow base 3 1 v (k + 1) ((kls t big (l.take (k + 1))).map (Value.int .i64)) := by
  unfold kls at *
  rw [List.take_add_one, hi, List.map_append, List.map_append]
  subst hq
  exact h
set_option maxRecDepth 100000 in
set_option maxHeartbeats 1000000 in
theorem pcells_yes (s : ByteArray) (big : Bool) (w : World) (hT : Tabs w) (hm : mayB s = true) :
    Calls Tryd.prog 27 #[.string s, .bool big] w fun e w' => Kept (fun _ => False) w w' ∧ ∃ v1 v2 B, e = .returned (.tuple #[v1, v2, .int .i64 0]) ∧ w.heap.size ≤ B ∧ B ≤ w'.heap.size ∧ w'.ownsRow B 3 1 v1 (Rw.cel (rs s) ((rs s).length + 1)).length ((ats (Rw.cel (rs s) ((rs s).length + 1))).map (Value.int .i64)) ∧ w'.ownsRow B 3 1 v2 (Rw.cel (rs s) ((rs s).length + 1)).length ((kls (rs s) big (Rw.cel (rs s) ((rs s).length + 1))).map (Value.int .i64)) ∧ Apart v1 v2 := by
  obtain ⟨i0, hi, hz0, hz1, hz2⟩ := info_parts info_int
  have cU := runes_yes s 0 w hT hm (Nat.zero_le _)
  have hl := rs_len s
  have hsz := mayB_size hm
  have hr := rs_runey (mayB_valid hm)
  generalize rs s = t at *
  have HR := Lib.hid hr
  clear hT hm hr
  obtain ⟨l, hll⟩ : ∃ l, Rw.cel t (t.length + 1) = l := ⟨_, rfl⟩
  have hlm := Rw.cel_len t (t.length + 1)
  rw [hll] at hlm
  have HLL := Lib.hid hll
  rw [hll]
  clear hll
  generalize hm : l.length = m at *
  have HM := Lib.hid hm
  clear hm
  go_enter Tryd.func27, Tryd.ntmps27
  go_wp2_with (first | (go_at_call 51; refine cU.mono ?_; rintro e w1 ⟨hk1, bb, cap, rfl, hbg, hR⟩; have HK1 := Lib.hid hk1; have HN := Lib.hid hR; clear cU hk1 hR hbg))
  refine (cells_any (some ⟨bb, 0, none⟩) t.length cap t big w1 HN.out HR.out (by omega)).mono ?_
  rintro e w2 ⟨hk2, g, cap2, rfl, hg, hC⟩
  have HK2 := Lib.hid (HK1.out.trans hk2)
  rw [HLL.out] at hC ⊢
  rw [HM.out]
  have HC := Lib.hid hC
  clear hk2 hC hg HK1
  go_wp2_with fail
  go_loopw [4, 5, 22] (fun v u i wr => ∃ k : Nat, k ≤ m ∧ i = .int .i64 k ∧ wr.ownsRow w2.heap.size 3 1 v k ((ats (l.take k)).map (Value.int .i64)) ∧ wr.ownsRow w2.heap.size 3 1 u k ((kls t big (l.take k)).map (Value.int .i64)) ∧ Apart v u ∧ Kept (fun _ => False) w2 wr) (fun _ _ i _ => m - (intOf i).toNat)
  case atStart => exact ⟨0, Nat.zero_le _, rfl, World.ownsRow_nil _ _ _ _, World.ownsRow_nil _ _ _ _, .inl rfl, Kept.refl _ _⟩
  case round =>
    obtain ⟨k, hk, rfl, hown, hown2, hap, hkept⟩ := hrel
    have HK := Lib.hid hkept
    have HCW := Lib.hid (HC.out.kept hkept id)
    have hsz2 := hkept.size
    have HSZ := Lib.hid hsz2
    clear hkept hsz2
    by_cases hkm : k < m
    · obtain ⟨o, ho⟩ : ∃ o, l[k]? = some o := ⟨_, List.getElem?_eq_getElem (by rw [HM.out]; exact hkm)⟩
      have h0 := HCW.out.c0 k o ho
      have h1 := HCW.out.c1 k o ho
      have h2 := HCW.out.c2 k o ho
      have h3 := HCW.out.c3 k o ho
      have HO := Lib.hid ho
      clear ho
      obtain ⟨q, hq⟩ : ∃ q, Rw.at_ t big o = q := ⟨_, rfl⟩
      obtain ⟨F, hF⟩ : ∃ F, decide (Rw.beg t o = o) = F := ⟨_, rfl⟩
      obtain ⟨G, hG⟩ : ∃ G, Rw.lastB t o = G := ⟨_, rfl⟩
      rw [hq] at h1
      rw [hF] at h2
      rw [hG] at h3
      have HQ := Lib.hid hq.symm
      clear hq hF hG
      obtain ⟨xs, hxs⟩ : ∃ xs, (ats (l.take k)).map (Value.int .i64) = xs := ⟨_, rfl⟩
      obtain ⟨ys, hys⟩ : ∃ ys, (kls t big (l.take k)).map (Value.int .i64) = ys := ⟨_, rfl⟩
      rw [hxs] at hown
      rw [hys] at hown2
      have HXS := Lib.hid hxs
      have HYS := Lib.hid hys
      clear hxs hys
      go_upto_region 7 with fail
      have hb := heap_alloc_new wr (.cells #[.int .i64 (o : Int), .int .i64 q, .bool F, .bool G] 67)
      have hkw : Kept (fun _ => False) wr (wr.alloc (.cells #[.int .i64 (o : Int), .int .i64 q, .bool F, .bool G] 67)) := (Kept.refl _ wr).alloc _
      have hownA := hown.alloc (.cells #[.int .i64 (o : Int), .int .i64 q, .bool F, .bool G] 67)
      have hownB := hown2.alloc (.cells #[.int .i64 (o : Int), .int .i64 q, .bool F, .bool G] 67)
      have hlt := hown.lt
      have hsz1 : wr.heap.size < (wr.alloc (.cells #[.int .i64 (o : Int), .int .i64 q, .bool F, .bool G] 67)).heap.size := by simp
      generalize wr.alloc (.cells #[.int .i64 (o : Int), .int .i64 q, .bool F, .bool G] 67) = W1 at *
      have HK1 := Lib.hid (HK.out.trans hkw)
      have HSZ1 := Lib.hid (HK1.out.size)
      generalize wr.heap.size = nb at *
      have f0 : W1.cell? ⟨nb, 0, none⟩ = some (.int .i64 (o : Int)) := by rw [cell_of_row _ _ _ _ _ _ hb]; rfl
      have f1 : W1.cell? ⟨nb, 1, none⟩ = some (.int .i64 q) := by rw [cell_of_row _ _ _ _ _ _ hb]; rfl
      have HLT := Lib.hid hlt
      clear h0 h1 h2 h3 hown hown2 hkw hb hsz1 hlt
      go_wp2_with (first
        | (at_builtin; refine wpList_append_own_at _ rfl (.tmp 26) (.tmp 29) 41 rfl w2.heap.size 3 i0 (.int .i64 0) 1 8 Tryd.underlying41 hi hz0 hz1 hz2 rfl (by decide) _ _ _ rfl (hownA.alloc _) ⟨_, 0, none⟩ 1 1 [.int .i64 (o : Int)] rfl rfl one_cell one_one (by unfold maxLen; omega) (by omega) (by have := HSZ1.out; simp; omega) ?_; intro v' w3 hown' hgrow _ hat; have ha := (hap.kept hownB hownA hgrow hat); have HK3 := Lib.hid (Kept.grew (HK1.out.alloc (.cells #[.int .i64 (o : Int)] 3)) hgrow (fun q hq => (hownA.lt q hq).1)); have hownC := ha.1; have hap1 := ha.2; have HSZ3 := Lib.hid HK3.out.size; have f2 : w3.cell? ⟨nb, 1, none⟩ = some (.int .i64 q) := hgrow.cell (cell_kept ((Kept.refl (fun _ => False) W1).alloc _) f1 id) (fun e => by have := (HLT.out nb e.symm).2; omega); clear hownB hownA hgrow hat hap ha f1 f0)
        | (at_builtin; refine wpList_append_own_at _ rfl (.tmp 31) (.tmp 34) 41 rfl w2.heap.size 3 i0 (.int .i64 0) 1 8 Tryd.underlying41 hi hz0 hz1 hz2 rfl (by decide) _ _ _ rfl (hownC.alloc _) ⟨_, 0, none⟩ 1 1 [.int .i64 q] rfl rfl one_cell one_one (by unfold maxLen; omega) (by omega) (by have := HSZ3.out; simp; omega) ?_; intro v2 w4 hown3 hgrow _ hat; have ha := (hap1.symm.kept hown' hownC hgrow hat); have HK4 := Lib.hid (Kept.grew (HK3.out.alloc (.cells #[.int .i64 q] 3)) hgrow (fun q hq => (hownC.lt q hq).1)); have hownD := ha.1; have hap2 := ha.2.symm; clear hown' hownC hgrow hat hap1 ha f2))
      rw [← HXS.out] at hownD
      rw [← HYS.out] at hown3
      have HO1 := Lib.hid (own_at2 HO.out hownD)
      have HO2 := Lib.hid (own_kls2 HO.out HQ.out hown3)
      clear hownD hown3
      go_roundw
      case rel => exact ⟨k + 1, by omega, by go_num, HO1.out, HO2.out, hap2, HK4.out⟩
      case measure => simp [intOf] <;> omega
    · obtain rfl : k = m := by omega
      have ht : l.take k = l := List.take_of_length_le (by rw [HM.out]; exact Nat.le_refl _)
      rw [ht] at hown hown2
      have HO1 := Lib.hid hown
      have HO2 := Lib.hid hown2
      clear hown hown2 ht
      go_wp2
      exact bodyPost_ret (v := .tuple #[_, _, .int .i64 0]) (by simp [results, Tryd.results27, go_sem]) rfl ⟨HK2.out.trans HK.out, _, _, w2.heap.size, rfl, HK2.out.size, HK.out.size, HO1.out, HO2.out, hap⟩
end Go.Proofs.YtclmcieegoobkaaDoor
