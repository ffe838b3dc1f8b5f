/-
  CAUSAL ORDER: Add by values; wakes; a script opened.
-/
import Derived.Test.YtpgicfbaefcbmaaDoorCaR
set_option linter.unusedVariables false
namespace Go.Proofs.YtpgicfbaefcbmaaDoor
open Go Go.RowKit Go.ChangeShapes Go.WideShapes Go.ChangeAt

/-- A vector, as a value. -/
def Vl (w : World) (v : Value) (vs : List Int) : Prop := ∃ (ad : Addr) (c : Nat), v = .slice (some ad) 4 c ∧ Nums w (some ad) 4 vs
/-- A slice of operations, as a value. -/
def Wl (w : World) (v : Value) (os : List Cd.OpP) : Prop := ∃ (A : Option Addr) (n c : Nat) (al : List OpS), v = .slice A n c ∧ OpsM w A n al ∧ Cp A n c ∧ al.map (·.o) = os
theorem Vl.kept {w w' : World} {v : Value} {vs : List Int} (h : Vl w v vs) (hk : Kept (fun _ => False) w w') : Vl w' v vs := by
  obtain ⟨ad, c, e, hn⟩ := h
  exact ⟨ad, c, e, hn.kept hk (fun _ _ => id)⟩
theorem Wl.kept {w w' : World} {v : Value} {os : List Cd.OpP} (h : Wl w v os) (hk : Kept (fun _ => False) w w') : Wl w' v os := by
  obtain ⟨A, n, c, al, e, hM, hC, ho⟩ := h
  exact ⟨A, n, c, al, e, hM.kept hk (fun _ _ => id) (fun _ _ _ _ => id), hC, ho⟩
theorem wl_nil (w : World) : Wl w (.slice none 0 0) [] := ⟨none, 0, 0, [], rfl, ⟨rfl, fun k b h => by simp at h⟩, ⟨Nat.le_refl _, fun _ => rfl⟩, rfl⟩
/-- The same, of blocks made since. -/
def VlF (w : World) (N : Nat) (v : Value) (vs : List Int) : Prop := ∃ (ad : Addr) (c : Nat), v = .slice (some ad) 4 c ∧ Nums w (some ad) 4 vs ∧ N ≤ ad.block ∧ Cd.vecOk vs
def WlF (w : World) (N : Nat) (v : Value) (os : List Cd.OpP) : Prop := ∃ (A : Option Addr) (n c : Nat) (al : List OpS), v = .slice A n c ∧ OpsM w A n al ∧ Cp A n c ∧ al.map (·.o) = os ∧ (∀ a, A = some a → N ≤ a.block) ∧ (∀ q ∈ al, ∀ a, q.A = some a → N ≤ a.block) ∧ ∀ q ∈ al, Cd.opOk q.o
theorem VlF.keep {w w' : World} {N : Nat} {v : Value} {vs : List Int} (h : VlF w N v vs) (hk : Kept (fun q => q < N) w w') : VlF w' N v vs := by
  obtain ⟨ad, c, e, hn, hN, ho⟩ := h
  exact ⟨ad, c, e, hn.kept hk (fun a ha e => by cases ha; have e : ad.block < N := e; omega), hN, ho⟩
theorem WlF.keep {w w' : World} {N : Nat} {v : Value} {os : List Cd.OpP} (h : WlF w N v os) (hk : Kept (fun q => q < N) w w') : WlF w' N v os := by
  obtain ⟨A, n, c, al, e, hM, hC, ho, h1, h2, h3⟩ := h
  exact ⟨A, n, c, al, e, hM.kept hk (fun a ha e => by have := h1 a ha; have e : a.block < N := e; omega) (fun q hq a ha e => by have := h2 q hq a ha; have e : a.block < N := e; omega), hC, ho, h1, h2, h3⟩
theorem VlF.vl {w : World} {N : Nat} {v : Value} {vs : List Int} (h : VlF w N v vs) : Vl w v vs := by
  obtain ⟨ad, c, e, hn, _⟩ := h
  exact ⟨ad, c, e, hn⟩
theorem WlF.wl {w : World} {N : Nat} {v : Value} {os : List Cd.OpP} (h : WlF w N v os) : Wl w v os := by
  obtain ⟨A, n, c, al, e, hM, hC, ho, _⟩ := h
  exact ⟨A, n, c, al, e, hM, hC, ho⟩
theorem add_vl (v y : Value) (vs : List Int) (ws : List Cd.OpP) (b : OpS) (o : Cd.OpP) (f : Nat) (r : List Cd.OpP × List Int × List Cd.OpP) (w : World) (hv : Vl w v vs) (hy : Wl w y ws) (hvo : Cd.vecOk vs) (hws : ∀ q ∈ ws, Cd.opOk q) (hn : ws.length ≤ 7000) (hb : OpOk w b) (hbo : b.o = o) (ho : Cd.opOk o) (hr : Cd.add f vs ws o = some r) (hT : Tabs w) :
    Calls Tryd.prog 27 #[v, y, opV b] w fun e w' => (∃ L X Y, e = .returned (.tuple #[L, X, Y, .int .i64 0]) ∧ WlF w' w.heap.size L r.1 ∧ VlF w' w.heap.size X r.2.1 ∧ WlF w' w.heap.size Y r.2.2) ∧ Kept (fun _ => False) w w' := by
  subst hbo
  obtain ⟨ad, c, rfl, hN⟩ := hv
  obtain ⟨A, n, c', al, rfl, hM, hC, rfl⟩ := hy
  have hl := hM.1
  rw [List.length_map, hl] at hn
  refine (padd_ok ad c vs A n c' al b w hN hvo hM (cp_none hC) hn (fun q hq => hws _ (List.mem_map_of_mem hq)) hb ho hT).mono ?_
  rintro e w' ⟨⟨A1, n1, c1, tl, g, xc, vs', A2, n2, c2, wl, rfl, hM1, hM2, hV, hC1, hC2, hvo', ht, hw, hadd, f1, f2, f3, f4, f5, _⟩, hk⟩
  have hd := Cd.add_det hr hadd
  subst hd
  exact ⟨⟨_, _, _, rfl, ⟨A1, n1, c1, tl, rfl, hM1, hC1, rfl, f2, f4, ht⟩, ⟨_, xc, rfl, hV, f1, hvo'⟩, ⟨A2, n2, c2, wl, rfl, hM2, hC2, rfl, f3, f5, hw⟩⟩, hk⟩
/-- Operations appended to a row of the call's own. -/
theorem wpList_append_ops {w : World} {ops : Array Oper} {rest : List Oper} {o : Oper} {a : Act} {Q : Exit → Act → World → Prop} (hgd : o.guard = none) (s x : Operand) (ho : o.op = .call { callee := .builtin .append, args := #[s, x], argTypes := #[22, 22] })
    (base : Nat) (v : Value) (bl : List OpS) (hs : a.eval s = v) (hown : w.ownsRow base 32 9 v bl.length (flatO bl)) (A : Option Addr) (m c : Nat) (l : List OpS) (hx : a.eval x = .slice A m c) (hM : OpsM w A m l) (hC : Cp A m c) (hb : bl.length + m ≤ 100000) (hbase : base ≤ w.heap.size)
    (hK : ∀ v' w', w'.ownsRow base 32 9 v' (bl ++ l).length (flatO (bl ++ l)) → w.grownBy w' v.ownBlock → wpList Tryd.prog ops Q rest (a.put o.dst v') w') : wpList Tryd.prog ops Q (o :: rest) a w := by
  obtain ⟨i0, hi, hz0, hz1, hz2⟩ := info_parts info_op
  have hl := hM.1
  match A, hM, hC, hx with
  | none, hM, hC, hx =>
    obtain ⟨rfl, rfl⟩ := cp_none hC rfl
    obtain rfl := List.eq_nil_of_length_eq_zero hl
    rw [List.append_nil] at hK
    exact wpList_append_own_none hgd s x 22 ho base 32 i0 9 Tryd.underlying22 hi v bl.length (flatO bl) hs hown hx (hK v w hown ⟨rfl, rfl, rfl, Nat.le_refl _, fun _ _ _ => rfl⟩)
  | some ad, hM, hC, hx =>
    rw [List.length_append, hl, flatO_app] at hK
    exact wpList_append_own w hgd s x 22 ho base 32 i0 (.agg #[.int .i64 0, .int .i64 0, .int .i64 0, .int .i64 0, .int .i64 0, .int .i64 0, .int .i64 0, .int .i64 0, .slice none 0 0]) 9 88 Tryd.underlying22 hi hz0 hz1 hz2 rfl (by decide) v bl.length (flatO bl) hs hown ad m c (flatO l) hx (by rw [flatO_len, hl]) (ops_news hM) flatO_one (by unfold maxLen; omega) (by omega) hbase (fun v' w' h1 h2 _ => hK v' w' h1 h2)
/-- What waits is not old. -/
theorem old_no (V : Option Addr) (vc : Nat) (vs : List Int) (b : OpS) (w : World) (hv : Nums w V 4 vs) (hvo : Cd.vecOk vs) (hb : OpOk w b) (ho : Cd.opOk b.o) (hn : ¬ Cd.od vs b.o) (hT : Tabs w) :
    Calls Tryd.prog 21 #[.slice V 4 vc, opV b] w fun e w' => e = .returned (.tuple #[.bool false, .int .i64 0]) ∧ Kept (fun _ => False) w w' := by
  refine (pold_any V 4 vc vs b w hv (by omega) hb hT).mono ?_
  rintro e w' ⟨⟨B, E, rfl, h⟩, hk⟩
  rcases h with ⟨_, rfl, hB⟩ | ⟨h, _⟩
  · cases B
    · exact ⟨rfl, hk⟩
    · exact absurd (hB.1 rfl) hn
  · exact absurd ⟨hvo, ho⟩ h
theorem ready_no (V : Option Addr) (vc : Nat) (vs : List Int) (b : OpS) (w : World) (hv : Nums w V 4 vs) (hvo : Cd.vecOk vs) (hb : OpOk w b) (ho : Cd.opOk b.o) (hn : ¬ Cd.rd vs b.o) (hT : Tabs w) :
    Calls Tryd.prog 22 #[.slice V 4 vc, opV b] w fun e w' => e = .returned (.tuple #[.bool false, .int .i64 0]) ∧ Kept (fun _ => False) w w' := by
  refine (pready_any V 4 vc vs b w hv (by omega) hb hT).mono ?_
  rintro e w' ⟨⟨B, E, rfl, h⟩, hk⟩
  rcases h with ⟨_, rfl, hB⟩ | ⟨h, _⟩
  · cases B
    · exact ⟨rfl, hk⟩
    · exact absurd (hB.1 rfl) hn
  · exact absurd ⟨hvo, ho⟩ h
theorem num26_any (x : Int) (w : World) : Calls Tryd.prog 26 #[.int .i64 x] w fun e w' => e = .returned (.int .i64 x) ∧ w' = w := by
  go_enter Tryd.func26, Tryd.ntmps26
  go_wp2
  go_ret
  exact ⟨rfl, rfl⟩
/-- Four numbers, just laid. -/
theorem four_new (w : World) (a b c d : Int) : Nums (w.alloc (.cells #[.int .i64 a, .int .i64 b, .int .i64 c, .int .i64 d] 3)) (some ⟨w.heap.size, 0, none⟩) 4 [a, b, c, d] := nums_new w [a, b, c, d] 3
theorem len_of {al : List OpS} {n : Nat} {os : List Cd.OpP} (h : al.length = n) (e : al.map (·.o) = os) : n = os.length := by rw [← e, List.length_map, h]
theorem wk_add : Cd.add 20 [0, 0, 0, 0] [] (mk1 1 2 [1, 0, 0, 0]) = some ([], [0, 0, 0, 0], [mk1 1 2 [1, 0, 0, 0]]) ∧ Cd.opOk (mk1 1 2 [1, 0, 0, 0]) ∧ Cd.vecOk [0, 0, 0, 0] := ⟨by kernel_rfl, by decide, by decide⟩
set_option maxRecDepth 100000 in
set_option maxHeartbeats 400000 in
theorem wakes26_any (w : World) (hT : Tabs w) : Calls Tryd.prog 34 #[] w fun e w' => e = .returned (.bool true) ∧ Kept (fun _ => False) w w' := by
  obtain ⟨h1, h2, h3⟩ := wk_add
  have hk1 : Kept (fun _ => False) w (w.alloc (.cells #[.int .i64 0, .int .i64 0, .int .i64 0, .int .i64 0] 3)) := (Kept.refl _ w).alloc _
  have HV1 := Lib.hid (four_new w 0 0 0 0)
  have HK1 := Lib.hid hk1
  have HR := Lib.hid (And.intro h1 (And.intro h2 h3))
  have HT := Lib.hid hT
  have cN := fun n W => num26_any n W
  have hsz : (w.alloc (.cells #[.int .i64 0, .int .i64 0, .int .i64 0, .int .i64 0] 3)).heap.size = w.heap.size + 1 := by simp
  have hk2 : Kept (fun _ => False) (w.alloc (.cells #[.int .i64 0, .int .i64 0, .int .i64 0, .int .i64 0] 3)) ((w.alloc (.cells #[.int .i64 0, .int .i64 0, .int .i64 0, .int .i64 0] 3)).alloc (.cells #[.int .i64 1, .int .i64 0, .int .i64 0, .int .i64 0] 3)) := (Kept.refl _ _).alloc _
  have hN2 := four_new (w.alloc (.cells #[.int .i64 0, .int .i64 0, .int .i64 0, .int .i64 0] 3)) 1 0 0 0
  rw [hsz] at hN2
  have cO := lop_any 1 2 ⟨w.heap.size + 1, 0, none⟩ 4 4 [1, 0, 0, 0] _ hN2 (by omega) (by unfold I64; decide) (by unfold I64; decide) (by unfold I64; decide)
  have HK2 := Lib.hid (hk1.trans hk2)
  have HV2 := Lib.hid (HV1.out.kept hk2 (fun _ _ => id))
  generalize mk1 1 2 [1, 0, 0, 0] = o at h1 h2 cO
  have cA := fun (b : OpS) (hbo : b.o = o) (W : World) (hv : Nums W (some ⟨w.heap.size, 0, none⟩) 4 [0, 0, 0, 0]) (hb : OpOk W b) (hk : Kept (fun _ => False) w W) => add_vl (.slice (some ⟨w.heap.size, 0, none⟩) 4 4) (.slice none 0 0) [0, 0, 0, 0] [] b o 20 _ W ⟨_, 4, rfl, hv⟩ (wl_nil W) h3 (fun q hq => by cases hq) (by simp) hb hbo h2 h1 (hT.kept hk id id)
  have HA := Lib.hid cA
  clear hk1 hk2 hT h1 h2 h3 hsz hN2 cA
  go_enter Tryd.func34, Tryd.ntmps34
  go_upto_region 2 with (first
    | (go_at_call 36; refine cO.mono ?_; clear cO; rintro e w3 ⟨⟨b, hbo, rfl, hbk, _⟩, hk3⟩; have HK3 := Lib.hid (HK2.out.trans hk3); have cA := HA.out b hbo w3 (HV2.out.kept hk3 (fun _ _ => id)) hbk HK3.out; clear hbk hbo hk3)
    | (go_at_call 27; refine cA.mono ?_; clear cA; rintro e w4 ⟨⟨L, X, Y, rfl, ⟨A1, n1, c1, l1, rfl, hM1, _, he1, _⟩, ⟨ad, c2, rfl, hN, _⟩, ⟨A3, n3, c3, l3, rfl, hM3, _, he3, _⟩⟩, hk4⟩; have HK4 := Lib.hid (HK3.out.trans hk4); have HN4 := Lib.hid hN; have hn1 : n1 = 0 := len_of hM1.1 he1; have hn3 : n3 = 1 := len_of hM3.1 he3; subst hn1; subst hn3; clear hM1 he1 hN hM3 he3 hk4))
  have hk5 : Kept (fun _ => False) w4 (w4.alloc (.cells #[.int .i64 0, .int .i64 0, .int .i64 0, .int .i64 0] 3)) := (Kept.refl _ w4).alloc _
  have cE := eqnum_yes (some ad) (some ⟨w4.heap.size, 0, none⟩) 4 c2 4 [0, 0, 0, 0] (w4.alloc (.cells #[.int .i64 0, .int .i64 0, .int .i64 0, .int .i64 0] 3)) (HN4.out.kept hk5 (fun _ _ => id)) (four_new w4 0 0 0 0) (by omega)
  have HK5 := Lib.hid (HK4.out.trans hk5)
  clear hk5
  go_wp2_with (first
    | (go_at_call 26; refine (num26_any _ _).mono ?_; rintro e w' ⟨rfl, hw⟩; have hw2 := hw.symm; subst hw2)
    | (go_at_call 31; refine cE.mono ?_; clear cE; rintro e w6 ⟨rfl, hk6⟩; have HK6 := Lib.hid (HK5.out.trans hk6); clear hk6))
  go_ret
  exact ⟨rfl, HK6.out⟩
end Go.Proofs.YtpgicfbaefcbmaaDoor
