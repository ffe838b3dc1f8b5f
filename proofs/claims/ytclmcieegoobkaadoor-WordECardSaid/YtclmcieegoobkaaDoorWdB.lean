/-
  WHERE WORDS BEGIN AND END, of the program: from its cells.
-/
import Derived.Test.YtclmcieegoobkaaDoorWdC2
set_option linter.unusedVariables false
namespace Go.Proofs.YtclmcieegoobkaaDoor
open Go Go.RowKit

/-- Stops among the first k cells. -/
def stops (t : List Int) (big e : Bool) (l : List Nat) (k : Nat) : List Int := ((l.take k).filter (fun i => if e then Rw.isE t big i else Rw.isB t big i)).map fun (i : Nat) => (i : Int)
theorem stops_yes {t : List Int} {big e : Bool} {l : List Nat} {k i : Nat} (h : l[k]? = some i) (hs : (if e then Rw.isE t big i else Rw.isB t big i) = true) : stops t big e l (k + 1) = stops t big e l k ++ [(i : Int)] := by
  unfold stops
  rw [List.take_add_one, h, List.filter_append, List.map_append]
  simp [hs]
theorem stops_no {t : List Int} {big e : Bool} {l : List Nat} {k i : Nat} (h : l[k]? = some i) (hs : (if e then Rw.isE t big i else Rw.isB t big i) = false) : stops t big e l (k + 1) = stops t big e l k := by
  unfold stops
  rw [List.take_add_one, h, List.filter_append]
  simp [hs]
theorem stopsB_yes {t : List Int} {big : Bool} {l : List Nat} {k i : Nat} (h : l[k]? = some i) (hs : Rw.isB t big i = true) : stops t big false l (k + 1) = stops t big false l k ++ [(i : Int)] := stops_yes h (by simpa using hs)
theorem stopsB_no {t : List Int} {big : Bool} {l : List Nat} {k i : Nat} (h : l[k]? = some i) (hs : Rw.isB t big i = false) : stops t big false l (k + 1) = stops t big false l k := stops_no h (by simpa using hs)
theorem stopsE_yes {t : List Int} {big : Bool} {l : List Nat} {k i : Nat} (h : l[k]? = some i) (hs : Rw.isE t big i = true) : stops t big true l (k + 1) = stops t big true l k ++ [(i : Int)] := stops_yes h (by simpa using hs)
theorem stopsE_no {t : List Int} {big : Bool} {l : List Nat} {k i : Nat} (h : l[k]? = some i) (hs : Rw.isE t big i = false) : stops t big true l (k + 1) = stops t big true l k := stops_no h (by simpa using hs)
theorem one_cell {W : World} {a : Int} {ty : TypeId} : ∀ j u, ([Value.int .i64 a] : List Value)[j]? = some u → (W.alloc (.cells #[.int .i64 a] ty)).cell? ((⟨W.heap.size, 0, none⟩ : Addr).add j) = some u := by
  intro j u hj
  rw [addr_add, cell_of_row _ _ _ _ _ _ (heap_alloc_new W _)]
  match j, hj with
  | 0, hj => simpa using hj
theorem one_one {a : Int} : ∀ u ∈ ([Value.int .i64 a] : List Value), u.oneCell' = true := by
  intro u hu
  simp only [List.mem_singleton] at hu
  subst hu
  rfl
theorem stops_len (t : List Int) (big e : Bool) (l : List Nat) (k : Nat) : (stops t big e l k).length ≤ k := by
  unfold stops
  rw [List.length_map]
  have h1 := List.length_filter_le (fun i => if e then Rw.isE t big i else Rw.isB t big i) (l.take k)
  rw [List.length_take] at h1
  omega
theorem stops_all (t : List Int) (big e : Bool) (k : Nat) (hk : (Rw.cel t (t.length + 1)).length = k) : stops t big e (Rw.cel t (t.length + 1)) k = (Rw.stp t big e).map fun (i : Nat) => (i : Int) := by
  unfold stops Rw.stp
  rw [List.take_of_length_le (by omega)]
set_option maxRecDepth 100000 in
set_option maxHeartbeats 2000000 in
theorem begins_any (g cap m : Nat) (t : List Int) (big : Bool) (w : World) (hm : (Rw.cel t (t.length + 1)).length = m) (hC : Cels w g t big (Rw.cel t (t.length + 1))) (hn : t.length ≤ 6000) :
    Calls Tryd.prog 54 #[.slice (some ⟨g, 0, none⟩) m cap] w fun e w' => Kept (fun _ => False) w w' ∧ ∃ A c, e = .returned (.slice A ((Rw.stp t big false).map fun (i : Nat) => (i : Int)).length c) ∧ Nums w' A ((Rw.stp t big false).map fun (i : Nat) => (i : Int)).length ((Rw.stp t big false).map fun (i : Nat) => (i : Int)) := by
  obtain ⟨i0, hi, hz0, hz1, hz2⟩ := info_parts info_int
  have hmn : m ≤ 6001 := by have := Rw.cel_len t (t.length + 1); omega
  have HALL := Lib.hid (stops_all t big false m hm)
  rw [← HALL.out]
  have HM := Lib.hid hm
  have HC := Lib.hid hC
  clear hm hC
  go_enter Tryd.func54, Tryd.ntmps54
  go_wp2
  go_loopw [3, 8] (fun v i wr => ∃ k : Nat, k ≤ m ∧ i = .int .i64 k ∧ wr.ownsRow w.heap.size 3 1 v (stops t big false (Rw.cel t (t.length + 1)) k).length ((stops t big false (Rw.cel t (t.length + 1)) k).map (Value.int .i64)) ∧ Kept (fun _ => False) w wr) (fun _ i _ => m - (intOf i).toNat)
  case atStart => exact ⟨0, Nat.zero_le _, rfl, World.ownsRow_nil _ _ _ _, Kept.refl _ _⟩
  case round =>
    obtain ⟨k, hk, rfl, hown, hkept⟩ := hrel
    have HK := Lib.hid hkept
    have hsz := hkept.size
    have HSZ := Lib.hid hsz
    have hlen := stops_len t big false (Rw.cel t (t.length + 1)) k
    obtain ⟨xs, hxs⟩ : ∃ xs, stops t big false (Rw.cel t (t.length + 1)) k = xs := ⟨_, rfl⟩
    have HXS := Lib.hid hxs
    rw [hxs] at hown hlen
    generalize hxl : xs.length = L at hown hlen
    have HXL := Lib.hid hxl
    clear hkept hsz hxs hxl
    by_cases hkm : k < m
    · obtain ⟨o, ho⟩ : ∃ o, (Rw.cel t (t.length + 1))[k]? = some o := ⟨_, List.getElem?_eq_getElem (by rw [HM.out]; exact hkm)⟩
      have h0 := cell_kept HK.out (HC.out.c0 k o ho) id
      have h1 := cell_kept HK.out (HC.out.c1 k o ho) id
      have h2 := cell_kept HK.out (HC.out.c2 k o ho) id
      have h3 := cell_kept HK.out (HC.out.c3 k o ho) id
      have HO := Lib.hid ho
      clear ho
      obtain ⟨q, hq⟩ : ∃ q, Rw.at_ t big o = q := ⟨_, rfl⟩
      obtain ⟨F, hF⟩ : ∃ F, decide (Rw.beg t o = o) = F := ⟨_, rfl⟩
      obtain ⟨G, hG⟩ : ∃ G, Rw.lastB t o = G := ⟨_, rfl⟩
      rw [hq] at h1
      rw [hF] at h2
      rw [hG] at h3
      have HQ := Lib.hid hq
      have HF := Lib.hid hF
      have HG := Lib.hid hG
      clear hq hF hG
      go_wp2
      have hb := heap_alloc_new wr (.cells #[.int .i64 (o : Int), .int .i64 q, .bool F, .bool G] 67)
      have hkw : Kept (fun _ => False) wr (wr.alloc (.cells #[.int .i64 (o : Int), .int .i64 q, .bool F, .bool G] 67)) := (Kept.refl _ wr).alloc _
      have hown1 := hown.alloc (.cells #[.int .i64 (o : Int), .int .i64 q, .bool F, .bool G] 67)
      have hsz1 : wr.heap.size < (wr.alloc (.cells #[.int .i64 (o : Int), .int .i64 q, .bool F, .bool G] 67)).heap.size := by simp
      generalize wr.alloc (.cells #[.int .i64 (o : Int), .int .i64 q, .bool F, .bool G] 67) = W1 at *
      have HK1 := Lib.hid (HK.out.trans hkw)
      have HSZ1 := Lib.hid (HK1.out.size)
      generalize wr.heap.size = nb at *
      have f0 : W1.cell? ⟨nb, 0, none⟩ = some (.int .i64 (o : Int)) := by rw [cell_of_row _ _ _ _ _ _ hb]; rfl
      have f1 : W1.cell? ⟨nb, 1, none⟩ = some (.int .i64 q) := by rw [cell_of_row _ _ _ _ _ _ hb]; rfl
      have f2 : W1.cell? ⟨nb, 2, none⟩ = some (.bool F) := by rw [cell_of_row _ _ _ _ _ _ hb]; rfl
      clear h0 h1 h2 h3 hown hkw hb hsz1
      by_cases hq0 : q = 0
      · subst hq0
        have HB : Hid (stops t big false (Rw.cel t (t.length + 1)) (k + 1) = xs) := by show _ = _; rw [stopsB_no HO.out (Rw.isB_0 HQ.out), HXS.out]
        go_quiet (fail)
        go_wp2
        go_roundw
        case rel => exact ⟨k + 1, by omega, by go_num, by rw [HB.out, HXL.out]; exact hown1, HK1.out.drewN _⟩
        case measure => simp [intOf]; omega
      · have q1 : (q != 0) = true := by rw [bne_iff_ne]; exact hq0
        have q2 : (q == 0) = false := by rw [beq_eq_false_iff_ne]; exact hq0
        have hocc := Rw.cel_C HO.out
        cases F
        · have hnb : Rw.beg t o ≠ o := of_decide_eq_false HF.out
          obtain ⟨k', o', rfl, hoo, ho'⟩ := Rw.progB HO.out hnb
          have p1 := cell_kept HK1.out (HC.out.c1 k' o' ho') id
          obtain ⟨r, hr⟩ : ∃ r, Rw.at_ t big o' = r := ⟨_, rfl⟩
          rw [hr] at p1
          have hval : Rw.isB t big o = (r != q) := by
            have hQ := HQ.out
            subst hoo
            have h := Rw.progB_val hocc (by rw [hQ]; exact hq0) hnb
            rwa [hr, hQ] at h
          have HV := Lib.hid hval
          clear hr ho' hnb hocc hq0 hval hoo
          by_cases hrq : r = q
          · subst hrq
            have HB : Hid (stops t big false (Rw.cel t (t.length + 1)) (k' + 1 + 1) = xs) := by show _ = _; rw [stopsB_no HO.out (by rw [HV.out]; simp), HXS.out]
            go_quiet (fail)
            go_wp2
            go_roundw
            case rel => exact ⟨k' + 1 + 1, by omega, by go_num, by rw [HB.out, HXL.out]; exact hown1, HK1.out.drewN _⟩
            case measure => simp [intOf]; omega
          · have r1 : (r != q) = true := by rw [bne_iff_ne]; exact hrq
            have r2 : (r == q) = false := by rw [beq_eq_false_iff_ne]; exact hrq
            have HB : Hid (stops t big false (Rw.cel t (t.length + 1)) (k' + 1 + 1) = xs ++ [((o : Nat) : Int)]) := by show _ = _; rw [stopsB_yes HO.out (by rw [HV.out]; exact r1), HXS.out]
            clear hrq
            go_quiet (fail)
            go_wp2_with (at_builtin; refine wpList_append_own _ rfl _ _ 41 rfl w.heap.size 3 i0 (.int .i64 0) 1 8 Tryd.underlying41 hi hz0 hz1 hz2 rfl (by decide) _ _ _ rfl (World.ownsRow.alloc (w := W1.drewN _) hown1 _) ⟨_, 0, none⟩ 1 1 [.int .i64 ((o : Nat) : Int)] rfl rfl one_cell one_one (by unfold maxLen; omega) (by omega) (by have := HSZ1.out; simp; omega) ?_; intro v' w1 hown' hgrow _; have hK2 := Lib.hid (Kept.grew ((HK1.out.drewN _).alloc (.cells #[.int .i64 ((o : Nat) : Int)] 3)) hgrow (fun q hq => (hown1.lt q hq).1)); have HO2 := Lib.hid hown'; clear hown' hgrow hown1)
            go_roundw
            case rel => exact ⟨k' + 1 + 1, by omega, by go_num, by rw [HB.out, List.length_append, HXL.out, List.map_append]; exact HO2.out, hK2.out⟩
            case measure => simp [intOf]; omega
        · have hbb : Rw.beg t o = o := of_decide_eq_true HF.out
          have HB : Hid (stops t big false (Rw.cel t (t.length + 1)) (k + 1) = xs ++ [((o : Nat) : Int)]) := by show _ = _; rw [stopsB_yes HO.out (Rw.isB_first hocc (by rw [HQ.out]; exact hq0) hbb), HXS.out]
          clear hocc hbb hq0
          go_quiet (fail)
          go_wp2_with (at_builtin; refine wpList_append_own _ rfl _ _ 41 rfl w.heap.size 3 i0 (.int .i64 0) 1 8 Tryd.underlying41 hi hz0 hz1 hz2 rfl (by decide) _ _ _ rfl (World.ownsRow.alloc (w := W1.drewN _) hown1 _) ⟨_, 0, none⟩ 1 1 [.int .i64 ((o : Nat) : Int)] rfl rfl one_cell one_one (by unfold maxLen; omega) (by omega) (by have := HSZ1.out; simp; omega) ?_; intro v' w1 hown' hgrow _; have hK2 := Lib.hid (Kept.grew ((HK1.out.drewN _).alloc (.cells #[.int .i64 ((o : Nat) : Int)] 3)) hgrow (fun q hq => (hown1.lt q hq).1)); have HO2 := Lib.hid hown'; clear hown' hgrow hown1)
          go_roundw
          case rel => exact ⟨k + 1, by omega, by go_num, by rw [HB.out, List.length_append, HXL.out, List.map_append]; exact HO2.out, hK2.out⟩
          case measure => simp [intOf]; omega
    · obtain rfl : k = m := by omega
      go_wp2
      go_ret
      rw [HXS.out]
      obtain ⟨A, c, rfl, hN, _, _⟩ := owned_nums hown HXL.out
      rw [HXL.out]
      exact ⟨HK.out, A, c, rfl, hN⟩
end Go.Proofs.YtclmcieegoobkaaDoor
