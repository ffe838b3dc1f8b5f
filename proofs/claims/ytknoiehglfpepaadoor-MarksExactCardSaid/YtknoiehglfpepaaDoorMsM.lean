/-
  MARKS: the reference's Move; what is written over.
-/
import Derived.Test.YtknoiehglfpepaaDoorMsF
import Derived.Deep.RegionHeld3
set_option linter.unusedVariables false
namespace Go.Proofs.YtknoiehglfpepaaDoor
open Go Go.RowKit

/-- Append of one mark that the call has laid, in a region that draws. -/
theorem step_append_one {w : World} {ops : Array Oper} {o : Oper} {a : Act} {K : Act → World → Prop} {Q : Exit → Act → World → Prop} {E : Prop} (hgd : o.guard = none) (s x : Operand) (ho : o.op = .call { callee := .builtin .append, args := #[s, x], argTypes := #[22, 22] })
    (base : Nat) (v : Value) (n : Nat) (xs : List Value) (hs : a.eval s = v) (hown : w.ownsRow base 61 2 v n xs) (ad : Addr) (p q : Int) (hx : a.eval x = .slice (some ad) 1 1)
    (hnews : ∀ j u, ([Value.int .i64 p, .int .i64 q] : List Value)[j]? = some u → w.cell? (ad.add j) = some u) (hb : n + 1 ≤ 1000000) (hbase : base ≤ w.heap.size)
    (h : ∀ v' w', w'.ownsRow base 61 2 v' (n + 1) (xs ++ [.int .i64 p, .int .i64 q]) → w.grownBy w' v.ownBlock → K (a.put o.dst v') w') :
    if Region.wanted o (yielded ops a.tmps) = true then Oper.wp Tryd.prog o a w K Q else E := by
  have hw : Region.wanted o (yielded ops a.tmps) = true := by simp [Region.wanted, hgd]
  rw [if_pos hw]
  obtain ⟨i0, hi, hz0, hz1, hz2⟩ := info_parts info_mark
  obtain ⟨v', w', hrun, h2, h3, h4, h5⟩ := run_append_own_at (P := Tryd.prog) w base 22 o.type 61 i0 (.agg #[.int .i64 0, .int .i64 0]) 2 16 Tryd.underlying22 hi hz0 hz1 hz2 rfl (by decide) v n xs hown ad 1 1 [.int .i64 p, .int .i64 q] rfl hnews two_one (by unfold maxLen; omega) (by omega) hbase
  unfold Oper.wp
  simp [execOp, ho, resolve, invoke, builtin, hs, hx, hrun, Result.andThen]
  exact h v' w' h2 h3
set_option maxRecDepth 100000 in
set_option maxHeartbeats 4000000 in
theorem rmove_any (A : Option Addr) (n c : Nat) (rows : List (List Int)) (a d : Int) (s : ByteArray) (w : World) (hA : Rws w A n 2 rows) (hn : n ≤ 100000) (ho : Rw.mOk rows) (ha : 0 ≤ a ∧ a ≤ 4000) (hd : 0 ≤ d ∧ d ≤ 4000) (hsz : s.size ≤ 4000) :
    Calls Tryd.prog 20 #[.slice A n c, patV a d s] w fun e w' => MsRet w (Rw.mmv rows a d (rs s).length) e w' ∧ Kept (fun _ => False) w w' := by
  have hl := rs_len s
  have hka : Kept (fun _ => False) w (w.alloc (patO a d s)) := (Kept.refl _ w).alloc _
  have HG : Hid ((w.alloc (patO a d s)).heap[w.heap.size]? = some (patO a d s)) := heap_alloc_new w _
  have cS := fun (v : Int) (hv : 0 ≤ v ∧ v ≤ 4000) W => rshift_yes s a d v W hv ha hd hsz
  have HFIN := Lib.hid (mmv_i64 (n := (rs s).length) ho hA.len2 ha hd (by omega))
  have hNN : (rs s).length ≤ 4000 := by omega
  generalize (rs s).length = N at *
  have HKA := Lib.hid hka
  have HA := Lib.hid (hA.kept hka (fun _ _ => id))
  have HO := Lib.hid ho
  have HCS := Lib.hid cS
  have hw0 : IntKind.i64.wrap (a + d) = a + d := IntWalk.i64_in _ ⟨by omega, by omega⟩
  have hb2 : w.heap.size ≤ (w.alloc (patO a d s)).heap.size := HKA.out.size
  obtain ⟨g, hg⟩ : ∃ g, w.heap.size = g := ⟨_, rfl⟩
  clear hka hA ho cS
  go_enter Tryd.func20, Tryd.ntmps20
  go_wp2_with fail
  simp only [hg] at HG ⊢
  have HGW := Lib.hid hg
  clear hg
  generalize w.alloc (patO a d s) = w1 at *
  go_loopw [5, 6] (fun v i wr => ∃ k : Nat, k ≤ n ∧ i = .int .i64 k ∧ wr.ownsRow w1.heap.size 61 2 v (Rw.mmv (rows.take k) a d N).length (flat (Rw.mmv (rows.take k) a d N)) ∧ Kept (fun _ => False) w1 wr) (fun _ i _ => n - (intOf i).toNat)
  case atStart => exact ⟨0, Nat.zero_le _, rfl, by rw [Rw.mmv_zero]; exact World.ownsRow_nil _ _ _ _, Kept.refl _ _⟩
  case round =>
    obtain ⟨k, hk, rfl, hown, hkept⟩ := hrel
    have HK := Lib.hid hkept
    have hsz2 := hkept.size
    have hLL : (Rw.mmv (rows.take k) a d N).length ≤ n := by
      have h1 := Rw.mmv_len (rows.take k) a d N
      rw [List.length_take] at h1
      omega
    have HG3 := Lib.hid ((hkept.block _ (heap_lt HG.out) id).trans HG.out)
    clear hkept
    obtain ⟨L, hL⟩ : ∃ L, (Rw.mmv (rows.take k) a d N).length = L := ⟨_, rfl⟩
    obtain ⟨xs, hxs⟩ : ∃ xs, flat (Rw.mmv (rows.take k) a d N) = xs := ⟨_, rfl⟩
    rw [hL, hxs] at hown
    rw [hL] at hLL
    have HLX := Lib.hid hL
    have HXS := Lib.hid hxs
    clear hL hxs
    by_cases hkn : k < n
    · obtain ⟨ad, x, v, rfl, hr, f0', f1'⟩ := HA.out.two hkn
      obtain ⟨hx, hv, _⟩ := HO.out k x v hr
      have b1 : decide (k < n) = true := decide_eq_true hkn
      have b2 : decide ((k : Int) < (n : Int)) = true := decide_eq_true (by omega)
      have t1 : (0 : Int) ≤ (k : Int) := by omega
      have t2 : (k : Int) < (n : Int) := by omega
      have HSt := Lib.hid (Rw.mmv_step (a := a) (d := d) (n := N) hr)
      obtain ⟨p0', p1', p2'⟩ := pat_cells HG.out
      have HSA : Hid (∀ W : World, Kept (fun _ => False) w1 W → W.cell? (ad.add (k * 2)) = some (.int .i64 x) ∧ W.cell? ⟨(ad.add (k * 2)).block, (ad.add (k * 2)).off + 1, none⟩ = some (.int .i64 v) ∧ W.cell? ⟨g, 0, none⟩ = some (.int .i64 a) ∧ W.cell? ⟨g, 1, none⟩ = some (.int .i64 d) ∧ W.cell? ⟨g, 2, none⟩ = some (.string s)) := fun W h => ⟨cell_kept h f0' id, cell_kept h f1' id, cell_kept h p0' id, cell_kept h p1' id, cell_kept h p2' id⟩
      clear hr f0' f1' p0' p1' p2'
      obtain ⟨f0, f1, p0, p1, p2⟩ := HSA.out _ HK.out
      by_cases hin : a < v ∧ v < a + d
      · obtain ⟨h1, h2⟩ := hin
        have b3 : decide (a < v) = true := decide_eq_true h1
        have b4 : decide (v < a + d) = true := decide_eq_true h2
        have HE : Hid (Rw.mmv (rows.take (k + 1)) a d N = Rw.mmv (rows.take k) a d N) := by
          show _ = _
          rw [HSt.out]
          simp only [Rw.mmv1]
          rw [if_pos ⟨h1, h2⟩, List.append_nil]
        go_wp2_with fail
        go_quiet (fail)
        go_wp2_with fail
        go_roundw
        case rel => exact ⟨k + 1, by omega, by go_num, by rw [HE.out, HLX.out, HXS.out]; exact own_kept hown ((Kept.refl (fun _ => False) wr).drewN _), HK.out.drewN _⟩
        case measure => simp [intOf] <;> omega
      · have hc : (decide (a < v) = false) ∨ (decide (a < v) = true ∧ decide (v < a + d) = false) := by
          by_cases h1 : a < v
          · exact .inr ⟨decide_eq_true h1, decide_eq_false (fun h2 => hin ⟨h1, h2⟩)⟩
          · exact .inl (decide_eq_false h1)
        have hE : Rw.mmv (rows.take (k + 1)) a d N = Rw.mmv (rows.take k) a d N ++ [[x, min (Rw.msh a d N v) 4000]] := by
          rw [HSt.out]
          simp only [Rw.mmv1]
          rw [if_neg hin]
        have cSv := fun W => HCS.out v hv W
        have hrange := msh_i64 (n := N) hv ha hd hNN
        obtain ⟨S, hS⟩ : ∃ S, Rw.msh a d N v = S := ⟨_, rfl⟩
        rw [hS] at hE hrange
        simp only [hS] at cSv
        obtain ⟨Q, hQ0⟩ : ∃ Q, min S 4000 = Q := ⟨_, rfl⟩
        rw [hQ0] at hE
        have hQ : min 4000 S = Q := by omega
        have HE := Lib.hid (snoc_at hE HLX.out HXS.out)
        clear hS hin hE hQ0
        rcases hc with b3 | ⟨b3, b4⟩
        all_goals
          go_wp2_with fail
          go_quiet (fail)
          go_wp2_with fail
          obtain ⟨W5, hW5⟩ : ∃ W5, wr.drewN nq = W5 := ⟨_, rfl⟩
          have hk5 : Kept (fun _ => False) wr W5 := by rw [← hW5]; exact (Kept.refl (fun _ => False) wr).drewN _
          have HO5 := Lib.hid (own_kept hown hk5)
          have HK5 := Lib.hid (HK.out.trans hk5)
          rw [hW5]
          clear hW5 hk5 f0 f1 p0 p1 p2 hown
          have KA := HSA.out _ HK5.out.drew
          have cS6 := cSv W5.drew
          have hs5 : w1.heap.size ≤ W5.heap.size := HK5.out.size
          go_region_held3 (fun (w' : World) => w'.cell? (ad.add (k * 2)) = some (.int .i64 x) ∧ w'.cell? ⟨(ad.add (k * 2)).block, (ad.add (k * 2)).off + 1, none⟩ = some (.int .i64 v) ∧ w'.cell? ⟨g, 0, none⟩ = some (.int .i64 a) ∧ w'.cell? ⟨g, 1, none⟩ = some (.int .i64 d) ∧ w'.cell? ⟨g, 2, none⟩ = some (.string s))
            (first | with_reducible exact KC | with_reducible exact KA | with_reducible exact HSA.out _ ((HK5.out.trans HK6.out).alloc _) | with_reducible exact KD)
            (first
              | (go_at_call 28; (with_reducible refine cS6.mono ?_); rintro e w6 ⟨rfl, hk6⟩; have HK6 : Hid (Kept (fun _ => False) W5 w6) := (Kept.refl (fun _ => False) W5).drew.trans hk6; have KC := HSA.out _ (HK5.out.trans HK6.out); have HO6 := Lib.hid (own_kept HO5.out HK6.out); have hs6 : w1.heap.size ≤ w6.heap.size := Nat.le_trans hs5 HK6.out.size; clear hk6)
              | (refine step_append_one rfl (.tmp 34) (.tmp 49) rfl w1.heap.size _ L xs rfl (HO6.out.alloc _) ⟨_, 0, none⟩ x Q rfl two_cells (by omega) (by simp <;> omega) ?_; intro v7 w7 hown7 hgrow7; have HO7 := Lib.hid hown7; have HK7 := Lib.hid (Kept.grew ((HK5.out.trans HK6.out).alloc _) hgrow7 (fun b hb => (HO6.out.lt b hb).1)); have KD := HSA.out _ HK7.out; clear hown7 hgrow7))
          go_wp2_with fail
          go_roundw
          case rel => exact ⟨k + 1, by omega, by go_num, by rw [HE.out.1, HE.out.2]; exact HO7.out, HK7.out⟩
          case measure => simp [intOf] <;> omega
    · obtain rfl : k = n := by omega
      have b1 : decide (k < k) = false := decide_eq_false (by omega)
      have b2 : decide ((k : Int) < (k : Int)) = false := decide_eq_false (by omega)
      have hall : rows.take k = rows := List.take_of_length_le (by rw [HA.out.1]; exact Nat.le_refl _)
      rw [hall] at HLX HXS
      clear hall
      obtain ⟨B, c', e1, h1, h2, h3⟩ := own_told hown HLX.out.symm HXS.out.symm HFIN.out
      subst e1
      have HX : Hid (MsRet w (Rw.mmv rows a d N) (.returned (.slice B L c')) wr) := by
        show MsRet _ _ _ _
        rw [← HLX.out]
        exact ⟨B, c', rfl, h1, fun q hq => Nat.le_trans (by have := HGW.out; omega) (h2 q hq), h3.1⟩
      clear hown h1 h2 h3
      go_wp2_with fail
      go_ret
      exact ⟨HX.out, HKA.out.trans HK.out⟩
set_option maxRecDepth 100000 in
set_option maxHeartbeats 1000000 in
/-- What is written over is the call's own. -/
theorem spoil_any (B : Nat) (v : Value) (n : Nat) (xs : List Value) (w : World) (hown : w.ownsRow B 61 2 v n xs) (hn : n ≤ 100000) :
    Calls Tryd.prog 21 #[v] w fun e w' => e = .returned (.tuple #[]) ∧ Kept (fun k => v.ownBlock = some k) w w' := by
  rcases id hown.2 with ⟨rfl, rfl⟩ | ⟨g, cap, cur, rfl, hg, hgg, hcap, hcm, hcs, ht⟩
  · clear hown
    go_enter Tryd.func21, Tryd.ntmps21
    go_wp2
    go_loopw [2] (fun i wr => i = .int .i64 ((0 : Nat) : Int) ∧ wr = w) (fun _ _ => 0)
    case atStart => exact ⟨rfl, rfl⟩
    case round =>
      obtain ⟨rfl, rfl⟩ := hrel
      have HK0 : Hid (Kept (fun k => (Value.slice none 0 0).ownBlock = some k) wr wr) := Kept.refl _ _
      go_wp2
      go_end0
      exact ⟨rfl, HK0.out⟩
  · have HO := Lib.hid hown
    clear hown hgg hcs ht
    go_enter Tryd.func21, Tryd.ntmps21
    go_wp2
    go_loopw [2] (fun i wr => ∃ (k : Nat) (xs' : List Value), k ≤ n ∧ i = .int .i64 k ∧ wr.ownsRow B 61 2 (.slice (some ⟨g, 0, none⟩) n cap) n xs' ∧ Kept (fun b => b = g) w wr) (fun i _ => n - (intOf i).toNat)
    case atStart => exact ⟨0, xs, Nat.zero_le _, rfl, HO.out, Kept.refl _ _⟩
    case round =>
      obtain ⟨k, xs', hk, rfl, hown, hkept⟩ := hrel
      have HK := Lib.hid hkept
      clear hkept
      by_cases hkn : k < n
      · have hlen : k * 2 + 1 < xs'.length := by rw [hown.1]; omega
        have hcell : wr.cell? ⟨g, k * 2, none⟩ = some (xs'[k * 2]'(by omega)) := by rw [hown.cellAt (k * 2) (by omega)]; exact List.getElem?_eq_getElem _
        have hcell1 : wr.cell? ⟨g, k * 2 + 1, none⟩ = some xs'[k * 2 + 1] := by rw [hown.cellAt (k * 2 + 1) (by omega)]; exact List.getElem?_eq_getElem hlen
        have hfr : wr.frozen? ⟨g, k * 2, none⟩ = false := hown.frozenAt _
        have hfr1 : wr.frozen? ⟨g, k * 2 + 1, none⟩ = false := hown.frozenAt _
        have hst := (((hown.stored (k * 2) (.int .i64 (-9))).1).stored (k * 2 + 1) (.int .i64 0)).1
        have HK2 := Lib.hid ((HK.out.setCell (p := ⟨g, k * 2, none⟩) rfl (.int .i64 (-9))).setCell (p := ⟨g, k * 2 + 1, none⟩) rfl (.int .i64 0))
        have HS := Lib.hid hst
        have b1 : decide (k < n) = true := decide_eq_true hkn
        have b2 : decide ((k : Int) < (n : Int)) = true := decide_eq_true (by omega)
        have t1 : (0 : Int) ≤ (k : Int) := by omega
        have t2 : (k : Int) < (n : Int) := by omega
        clear hst hown
        go_wp2
        go_roundw
        case rel => exact ⟨k + 1, _, by omega, by go_num, HS.out, HK2.out⟩
        case measure => simp [intOf] <;> omega
      · obtain rfl : k = n := by omega
        have b1 : decide (k < k) = false := decide_eq_false (by omega)
        go_wp2
        go_end0
        exact ⟨rfl, HK.out.mono (fun b _ h => by subst h; rfl)⟩
end Go.Proofs.YtknoiehglfpepaaDoor
