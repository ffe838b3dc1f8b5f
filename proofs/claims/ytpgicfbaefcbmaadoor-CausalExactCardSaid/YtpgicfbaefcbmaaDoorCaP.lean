/-
  CAUSAL ORDER: Add, of what may be.
-/
import Derived.Test.YtpgicfbaefcbmaaDoorCaN
set_option linter.unusedVariables false
namespace Go.Proofs.YtpgicfbaefcbmaaDoor
open Go Go.RowKit

/-- What Add tells. -/
def AddRet (w : World) (vs : List Int) (ws : List Cd.OpP) (o : Cd.OpP) (e : Ending) (w' : World) : Prop :=
  ∃ (A1 : Option Addr) (n1 c1 : Nat) (tl : List OpS) (g xc : Nat) (vs' : List Int) (A2 : Option Addr) (n2 c2 : Nat) (wl : List OpS),
    e = .returned (.tuple #[.slice A1 n1 c1, .slice (some ⟨g, 0, none⟩) 4 xc, .slice A2 n2 c2, .int .i64 0]) ∧ OpsM w' A1 n1 tl ∧ OpsM w' A2 n2 wl ∧ Nums w' (some ⟨g, 0, none⟩) 4 vs' ∧ Cp A1 n1 c1 ∧ Cp A2 n2 c2 ∧ Cd.vecOk vs' ∧ (∀ q ∈ tl, Cd.opOk q.o) ∧ (∀ q ∈ wl, Cd.opOk q.o) ∧
    Cd.Added vs ws o (tl.map (·.o)) vs' (wl.map (·.o)) ∧ w.heap.size ≤ g ∧ (∀ a, A1 = some a → w.heap.size ≤ a.block) ∧ (∀ a, A2 = some a → w.heap.size ≤ a.block) ∧ (∀ q ∈ tl, ∀ a, q.A = some a → w.heap.size ≤ a.block) ∧ (∀ q ∈ wl, ∀ a, q.A = some a → w.heap.size ≤ a.block) ∧ (∃ N1 N2, w.heap.size ≤ N1 ∧ g < N1 ∧ N1 ≤ N2 ∧ N2 ≤ w'.heap.size ∧ Own2 w' N1 N2 A1 n1 c1 tl ∧ Own2 w' N2 w'.heap.size A2 n2 c2 wl) ∧ Vm w' g xc vs'
/-- Is it there already, as far as was looked? -/
def knownB (vs : List Int) (al : List OpS) (o : Cd.OpP) (k : Nat) : Bool := Cd.odB vs o || (al.take k).any fun q => decide (q.o.st = o.st ∧ q.o.nn = o.nn)
theorem knownB_zero (vs : List Int) (al : List OpS) (o : Cd.OpP) : knownB vs al o 0 = Cd.odB vs o := by simp [knownB]
theorem knownB_succ {vs : List Int} {al : List OpS} {o : Cd.OpP} {k : Nat} {q : OpS} (h : al[k]? = some q) : knownB vs al o (k + 1) = (knownB vs al o k || decide (q.o.st = o.st ∧ q.o.nn = o.nn)) := by
  unfold knownB
  rw [List.take_add_one, h]
  simp [Bool.or_assoc]
theorem wt_known {vs : List Int} {al : List OpS} {o : Cd.OpP} {n : Nat} (hl : al.length = n) : Cd.wt vs (al.map (·.o)) o = if knownB vs al o n = true then al.map (·.o) else al.map (·.o) ++ [o] := by
  unfold Cd.wt knownB
  rw [List.take_of_length_le (by omega), List.any_map]
  rfl
theorem four_of {w : World} {b : OpS} (h : Cd.opOk b.o) (hok : OpOk w b) : b.n = 4 := by
  rw [← hok.seen.1]
  exact h.2.2.2.1.1
theorem OpsRet.of {w w1 w' : World} {n : Nat} {al : List OpS} {e : Ending} (h : OpsRet w1 n al e w') (hk : w.heap.size ≤ w1.heap.size) : OpsRet w n al e w' := by
  obtain ⟨A, c, bl, h1, h2, h3, h4, h5, h6, h7⟩ := h
  exact ⟨A, c, bl, h1, h2, h3, h4, fun a ha => Nat.le_trans hk (h5 a ha), fun b hb a ha => Nat.le_trans hk (h6 b hb a ha), h7.of hk⟩
theorem mem_o {al bl : List OpS} (h : bl.map (·.o) = al.map (·.o)) (hp : ∀ b ∈ al, Cd.opOk b.o) : ∀ b ∈ bl, Cd.opOk b.o := by
  intro b hb
  have : b.o ∈ al.map (·.o) := by rw [← h]; exact List.mem_map_of_mem hb
  obtain ⟨q, hq, e⟩ := List.mem_map.1 this
  rw [← e]
  exact hp q hq
theorem results_tmp4 {fn : Func} {t u v x : Tmp} (h : fn.results = #[.tmp t, .tmp u, .tmp v, .tmp x]) (tmps : Array Value) (P : Program) (w : World) :
    (results fn tmps).run P w = .ok (.tuple #[tmps.getD t undef, tmps.getD u undef, tmps.getD v undef, tmps.getD x undef]) w := by
  simp [results, h]
theorem cp_none {A : Option Addr} {n c : Nat} (h : Cp A n c) (hA : A = none) : n = 0 ∧ c = 0 := by
  have h1 := h.1
  have h2 := h.2 hA
  omega
/-- Settled, and both copied: what Add tells. -/
theorem add_ret {w w1 w2 w3 w4 : World} {vs vs' : List Int} {al tb wb : List OpS} {ws : List Cd.OpP} {o : Cd.OpP} {g xc n1 n2 : Nat} {e1 e2 : Ending} (hal : Cd.wt vs ws o = al.map (·.o)) (hp : ∀ b ∈ al, Cd.opOk b.o) (h1 : Kept (fun _ => False) w w1) (h2 : Kept (fun _ => False) w1 w2) (h3 : Kept (fun _ => False) w2 w3) (h4 : Kept (fun _ => False) w3 w4)
    (hv : Vm w2 g xc vs') (hg : w1.heap.size ≤ g) (hvo : Cd.vecOk vs') (htb : ∀ b ∈ tb, b ∈ al) (hst : Cd.Stp (al.map (·.o)) vs (tb.map (·.o)) vs') (hno : (al.map (·.o)).find? (Cd.rdB vs') = none) (hwb : wb = al.filter (fun b => !Cd.odB vs' b.o)) (ho1 : OpsRet w2 n1 tb e1 w3) (ho2 : OpsRet w3 n2 wb e2 w4) :
    ∃ V1 V2, e1 = .returned V1 ∧ e2 = .returned V2 ∧ AddRet w vs ws o (.returned (.tuple #[V1, .slice (some ⟨g, 0, none⟩) 4 xc, V2, .int .i64 0])) w4 := by
  obtain ⟨A1, c1, tl, rfl, q1, q2, q3, q4, q5, q6⟩ := ho1
  obtain ⟨A2, c2, wl, rfl, r1, r2, r3, r4, r5, r6⟩ := ho2
  have s1 := h1.size
  have s2 := h2.size
  have s3 := h3.size
  have hpt : ∀ b ∈ tb, Cd.opOk b.o := fun b hb => hp b (htb b hb)
  have hpw : ∀ b ∈ wb, Cd.opOk b.o := fun b hb => by
    rw [hwb] at hb
    exact hp b (List.mem_filter.1 hb).1
  refine ⟨_, _, rfl, rfl, A1, n1, c1, tl, g, xc, vs', A2, n2, c2, wl, rfl, q1.kept h4 (fun _ _ => id) (fun _ _ _ _ => id), r1, ((hv.kept h3 id).kept h4 id).nums hvo.1, q3, r3, hvo, mem_o q2 hpt, mem_o r2 hpw, ?_, by omega, fun a ha => by have := q4 a ha; omega, fun a ha => by have := r4 a ha; omega, fun q hq a ha => by have := q5 q hq a ha; omega, fun q hq a ha => by have := r5 q hq a ha; omega, ⟨w2.heap.size, w3.heap.size, by omega, hv.lt, s3, h4.size, q6.keep h4, r6⟩, (hv.kept h3 id).kept h4 id⟩
  refine ⟨by rw [hal, q2]; exact hst, by rw [hal]; exact hno, ?_⟩
  rw [hal, r2, hwb, List.filter_map]
  rfl
set_option maxRecDepth 100000 in
set_option maxHeartbeats 4000000 in
theorem padd_ok (vad : Addr) (vc : Nat) (vs : List Int) (A : Option Addr) (n c : Nat) (al : List OpS) (b : OpS) (w : World) (hv : Nums w (some vad) 4 vs) (hvo : Cd.vecOk vs) (hA : OpsM w A n al) (hC : A = none → n = 0 ∧ c = 0) (hn : n ≤ 7000) (ho : ∀ q ∈ al, Cd.opOk q.o) (hb : OpOk w b) (hbo : Cd.opOk b.o) (hT : Tabs w) :
    Calls Tryd.prog 27 #[.slice (some vad) 4 vc, .slice A n c, opV b] w fun e w' => AddRet w vs (al.map (·.o)) b.o e w' ∧ Kept (fun _ => False) w w' := by
  obtain ⟨i0, hi, hz0, hz1, hz2⟩ := info_parts info_op
  have hk0 : Kept (fun _ => False) w (w.alloc (opO b)) := (Kept.refl _ w).alloc _
  have cM := cmay_any (some vad) 4 vc vs (w.alloc (opO b)) (hv.kept hk0 (fun _ _ => id)) (by omega)
  rw [decide_eq_true hvo] at cM
  have cO := fun W (hk : Kept (fun _ => False) w W) => may_any b W (hb.kept hk (fun _ _ => id)) (hT.kept hk id id)
  simp only [if_pos hbo] at cO
  have hbs := hbo.2.1
  have hlt0 : (b.o.st - 1).toNat < vs.length := by rw [hvo.1]; omega
  obtain ⟨x, hx⟩ : ∃ x, vs[(b.o.st - 1).toNat]? = some x := ⟨_, List.getElem?_eq_getElem hlt0⟩
  obtain ⟨E, hE⟩ : ∃ E : Bool, decide (b.o.nn ≤ x) = E := ⟨_, rfl⟩
  have cR := fun W (hk : Kept (fun _ => False) w W) => cold_any (some vad) vc vs b x W (hv.kept hk (fun _ _ => id)) hbs hx
  rw [hE] at cR
  have HE : Hid (E = knownB vs al b.o 0) := by
    show _ = _
    rw [knownB_zero, ← hE]
    unfold Cd.odB
    rw [hx]
  have HV := Lib.hid hv
  have HVO := Lib.hid hvo
  have HA := Lib.hid hA
  have HC := Lib.hid hC
  have HO := Lib.hid ho
  have HB := Lib.hid hb
  have HBO := Lib.hid hbo
  have HT := Lib.hid hT
  have HK0 := Lib.hid hk0
  have HLN : Hid (al.length = n) := hA.1
  have HP : Hid (Op9 (w.alloc (opO b)) ⟨w.heap.size, 0, none⟩ b) := op9_new
  have b7 : decide (8000 < (n : Int)) = false := decide_eq_false (by omega)
  have b8 : ((n : Int) == 8000) = false := beq_eq_false_iff_ne.2 (by omega)
  have b9 : decide ((n : Int) > 8000) = false := decide_eq_false (by omega)
  clear hv hvo hA hC ho hb hbo hT hk0 hbs hlt0 hx hE
  unfold opV at cO cR ⊢
  go_enter Tryd.func27, Tryd.ntmps27
  obtain ⟨⟨kd, t, si, t0, s0, rn, st, nn, seen⟩, B, m, mc⟩ := b
  simp only [opO] at *
  go_upto_region 1 with fail
  generalize w.alloc (.cells #[.int .i64 kd, .int .i64 t, .int .i64 si, .int .i64 t0, .int .i64 s0, .int .i64 rn, .int .i64 st, .int .i64 nn, .slice B m mc] 32) = w1 at *
  generalize hpb : w.heap.size = pb at *
  have HPB := Lib.hid hpb
  clear hpb
  go_upto_region 3 with (first
    | (go_at_call 48; refine cM.mono ?_; rintro e w2 ⟨rfl, hk2⟩; have HK2 := Lib.hid (HK0.out.trans hk2); have HP2 := Lib.hid (HP.out.kept hk2 id); obtain ⟨c0, c1, c2, c3, c4, c5, c6, c7, c8⟩ := (HP.out.kept hk2 id).cs; simp only at c0 c1 c2 c3 c4 c5 c6 c7 c8; clear hk2)
    | (go_at_call 39; refine (cO _ HK2.out).mono ?_; rintro e w3 ⟨rfl, hk3⟩; have HK3 := Lib.hid (HK2.out.trans hk3); have HP3 := Lib.hid (HP2.out.kept hk3 id); clear hk3 c0 c1 c2 c3 c4 c5 c6 c7 c8; obtain ⟨c0, c1, c2, c3, c4, c5, c6, c7, c8⟩ := (HP3.out).cs; simp only at c0 c1 c2 c3 c4 c5 c6 c7 c8))
  go_wp2_with (go_at_call 49; refine (cR _ HK3.out).mono ?_; rintro e w4 ⟨rfl, hk4⟩; have HK4 := Lib.hid (HK3.out.trans hk4); have HP4 := Lib.hid (HP3.out.kept hk4 id); clear hk4 c0 c1 c2 c3 c4 c5 c6 c7 c8)
  clear cM cO cR HP HP2 HP3 HK0 HK2 HK3
  go_loopw [10, 31] (fun v i wr => ∃ (k : Nat) (G : Bool), k ≤ n ∧ i = .int .i64 k ∧ v = .bool G ∧ G = knownB vs al ⟨kd, t, si, t0, s0, rn, st, nn, seen⟩ k ∧ Kept (fun _ => False) w4 wr) (fun _ i _ => n - (intOf i).toNat)
  case atStart => exact ⟨0, E, Nat.zero_le _, rfl, rfl, HE.out, Kept.refl _ _⟩
  case round =>
    obtain ⟨k, G, hk, rfl, rfl, hG, hkept⟩ := hrel
    have HK := Lib.hid (HK4.out.trans hkept)
    have HKr := Lib.hid hkept
    have HG := Lib.hid hG
    have HP5 := Lib.hid (HP4.out.kept hkept id)
    clear hkept hG
    by_cases hlt : k < n
    · obtain ⟨ad, b, rfl, hb, h9, hok⟩ := (HA.out.kept HK.out (fun _ _ => id) (fun _ _ _ _ => id)).at_ hlt
      have hop := HO.out b (List.mem_of_getElem? hb)
      have HS := Lib.hid (knownB_succ (vs := vs) (o := ⟨kd, t, si, t0, s0, rn, st, nn, seen⟩) hb)
      have hk1 : Kept (fun _ => False) wr (wr.alloc (opO b)) := (Kept.refl _ _).alloc _
      have cM := may_any b (wr.alloc (opO b)) (hok.kept hk1 (fun _ _ => id)) (HT.out.kept (HK.out.trans hk1) id id)
      rw [if_pos hop] at cM
      have HK1 := Lib.hid (HKr.out.trans hk1)
      have HQ : Hid (Op9 (wr.alloc (opO b)) ⟨wr.heap.size, 0, none⟩ b) := op9_new
      have HP6 := Lib.hid (HP5.out.kept hk1 id)
      obtain ⟨c0, c1, c2, c3, c4, c5, c6, c7, c8⟩ := h9
      obtain ⟨⟨kd', t', si', t0', s0', rn', st', nn', seen'⟩, B', m', mc'⟩ := b
      simp only at c0 c1 c2 c3 c4 c5 c6 c7 c8 HS
      have b1 : decide (k < n) = true := decide_eq_true hlt
      have b2 : decide ((k : Int) < (n : Int)) = true := decide_eq_true (by omega)
      have t1 : (0 : Int) ≤ (k : Int) := by omega
      have t2 : (k : Int) < (n : Int) := by omega
      clear hb hok hk1 hop HP5
      unfold opV at cM
      go_upto_region 7 with fail
      clear c0 c1 c2 c3 c4 c5 c6 c7 c8
      simp only [opO] at HQ HK1 HP6 cM
      generalize wr.alloc (.cells #[.int .i64 kd', .int .i64 t', .int .i64 si', .int .i64 t0', .int .i64 s0', .int .i64 rn', .int .i64 st', .int .i64 nn', .slice B' m' mc'] 32) = w5 at *
      generalize wr.heap.size = ob at *
      obtain ⟨c0, c1, c2, c3, c4, c5, c6, c7, c8⟩ := HQ.out.cs
      simp only at c0 c1 c2 c3 c4 c5 c6 c7 c8
      go_upto_region 9 with (go_at_call 39; refine cM.mono ?_; rintro e w6 ⟨rfl, hk6⟩; have HK6 := Lib.hid (HK1.out.trans hk6); have HQ6 := Lib.hid (HQ.out.kept hk6 id); have HP7 := Lib.hid (HP6.out.kept hk6 id); clear hk6 c0 c1 c2 c3 c4 c5 c6 c7 c8)
      clear cM
      have c6 := HQ6.out.cs.2.2.2.2.2.2.1
      have c7 := HQ6.out.cs.2.2.2.2.2.2.2.1
      have d6 := HP7.out.cs.2.2.2.2.2.2.1
      have d7 := HP7.out.cs.2.2.2.2.2.2.2.1
      simp only at c6 c7 d6 d7
      cases G
      · by_cases h1 : st' = st
        · have e1 : (st' == st) = true := by rw [h1]; exact beq_self_eq_true _
          by_cases h2 : nn' = nn
          · have e2 : (nn' == nn) = true := by rw [h2]; exact beq_self_eq_true _
            have HN : Hid (true = knownB vs al ⟨kd, t, si, t0, s0, rn, st, nn, seen⟩ (k + 1)) := by show _ = _; rw [HS.out, decide_eq_true ⟨h1, h2⟩, Bool.or_true]
            clear h1 h2
            go_wp2_with fail
            go_roundw
            case rel => exact ⟨k + 1, true, by omega, by go_num, rfl, HN.out, HK6.out⟩
            case measure => simp [intOf] <;> omega
          · have e2 : (nn' == nn) = false := beq_eq_false_iff_ne.2 h2
            have HN : Hid (false = knownB vs al ⟨kd, t, si, t0, s0, rn, st, nn, seen⟩ (k + 1)) := by show _ = _; rw [HS.out, decide_eq_false (fun h => h2 h.2), Bool.or_false]; exact HG.out
            clear h1 h2
            go_wp2_with fail
            go_roundw
            case rel => exact ⟨k + 1, false, by omega, by go_num, rfl, HN.out, HK6.out⟩
            case measure => simp [intOf] <;> omega
        · have e1 : (st' == st) = false := beq_eq_false_iff_ne.2 h1
          have HN : Hid (false = knownB vs al ⟨kd, t, si, t0, s0, rn, st, nn, seen⟩ (k + 1)) := by show _ = _; rw [HS.out, decide_eq_false (fun h => h1 h.1), Bool.or_false]; exact HG.out
          clear h1
          go_wp2_with fail
          go_roundw
          case rel => exact ⟨k + 1, false, by omega, by go_num, rfl, HN.out, HK6.out⟩
          case measure => simp [intOf] <;> omega
      · have HN : Hid (true = knownB vs al ⟨kd, t, si, t0, s0, rn, st, nn, seen⟩ (k + 1)) := by show _ = _; rw [HS.out, ← HG.out, Bool.true_or]
        go_wp2_with fail
        go_roundw
        case rel => exact ⟨k + 1, true, by omega, by go_num, rfl, HN.out, HK6.out⟩
        case measure => simp [intOf] <;> omega
    · obtain rfl : k = n := by omega
      have b1 : decide (k < k) = false := decide_eq_false (by omega)
      have b2 : decide ((k : Int) < (k : Int)) = false := decide_eq_false (by omega)
      have cC := oclone_any A k c al wr (HA.out.kept HK.out (fun _ _ => id) (fun _ _ _ _ => id)) HC.out (by omega)
      have HW := Lib.hid (wt_known (vs := vs) (o := ⟨kd, t, si, t0, s0, rn, st, nn, seen⟩) HLN.out)
      obtain ⟨c0, c1, c2, c3, c4, c5, c6, c7, c8⟩ := HP5.out.cs
      simp only at c0 c1 c2 c3 c4 c5 c6 c7 c8
      have HOKS : Hid (∀ (W : World), Kept (fun _ => False) w W → ∀ q ∈ al, OpOk W q) := fun W hk q hq => by
        obtain ⟨i, hi, rfl⟩ := List.getElem_of_mem hq
        exact (((HA.out.kept hk (fun _ _ => id) (fun _ _ _ _ => id)).2 i _ (List.getElem?_eq_getElem hi)).2)
      cases G
      · have HAL : Hid (Cd.wt vs (al.map (·.o)) ⟨kd, t, si, t0, s0, rn, st, nn, seen⟩ = (al ++ [(⟨⟨kd, t, si, t0, s0, rn, st, nn, seen⟩, B, m, mc⟩ : OpS)]).map (·.o)) := by show _ = _; rw [HW.out, ← HG.out, List.map_append]; rfl
        go_upto_region 15 with (go_at_call 52; refine cC.mono ?_; clear cC; rintro e w5 ⟨⟨W5, rfl, hW5⟩, hk5⟩; have HK5 := Lib.hid (HK.out.trans hk5); have HW5 := Lib.hid hW5; have d0 := cell_kept hk5 c0 id; have d1 := cell_kept hk5 c1 id; have d2 := cell_kept hk5 c2 id; have d3 := cell_kept hk5 c3 id; have d4 := cell_kept hk5 c4 id; have d5 := cell_kept hk5 c5 id; have d6 := cell_kept hk5 c6 id; have d7 := cell_kept hk5 c7 id; have d8 := cell_kept hk5 c8 id; have HS5 := Lib.hid hk5.size; clear hk5 hW5)
        clear c0 c1 c2 c3 c4 c5 c6 c7 c8
        have hown := HW5.out
        have HSZ5 : Hid (wr.heap.size ≤ w5.heap.size) := HS5.out
        generalize hxs : flatO al = xs at hown
        have HXS := Lib.hid hxs
        clear hxs
        go_upto_region 16 with (at_builtin; refine wpList_append_own_at _ rfl (.tmp 61) (.tmp 63) 22 rfl wr.heap.size 32 i0 (.agg #[.int .i64 0, .int .i64 0, .int .i64 0, .int .i64 0, .int .i64 0, .int .i64 0, .int .i64 0, .int .i64 0, .slice none 0 0]) 9 88 Tryd.underlying22 hi hz0 hz1 hz2 rfl (by decide) _ _ _ rfl (hown.alloc _) ⟨_, 0, none⟩ 1 1 (OpS.vals ⟨⟨kd, t, si, t0, s0, rn, st, nn, seen⟩, B, m, mc⟩) rfl rfl (nine_cells _) (nine_one _) (by unfold maxLen; omega) (by omega) (by have := HSZ5.out; simp; omega) ?_; intro W6 w6 hown6 hgrow6 _ hat6; have HO6 := Lib.hid hown6; have HK6 := Lib.hid (Kept.grew (HK5.out.alloc _) hgrow6 (fun q hq => by have h1 := (hown.lt q hq).1; have h2 := HK.out.size; omega)); clear hown6 hgrow6 hat6)
        have hO6 : w6.ownsRow wr.heap.size 32 9 W6 (k + 1) (flatO (al ++ [(⟨⟨kd, t, si, t0, s0, rn, st, nn, seen⟩, B, m, mc⟩ : OpS)])) := by rw [flatO_app, HXS.out]; simpa [flatO] using HO6.out
        obtain ⟨A5, n5, rfl, hM5, hB5, hC5⟩ := own_ops hO6 (fun q hq => by
          rcases List.mem_append.1 hq with hq | hq
          · exact HOKS.out _ HK6.out q hq
          · obtain rfl := List.mem_singleton.1 hq
            exact HB.out.kept HK6.out (fun _ _ => id))
        have HPA : Hid (∀ q ∈ (al ++ [(⟨⟨kd, t, si, t0, s0, rn, st, nn, seen⟩, B, m, mc⟩ : OpS)]), Cd.opOk q.o) := fun q hq => by
          rcases List.mem_append.1 hq with hq | hq
          · exact HO.out q hq
          · obtain rfl := List.mem_singleton.1 hq
            exact HBO.out
        have HKZ := Lib.hid HK6.out
        clear hown hO6 d0 d1 d2 d3 d4 d5 d6 d7 d8
        have cS := settle_any vad vc vs A5 (k + 1) n5 (al ++ [(⟨⟨kd, t, si, t0, s0, rn, st, nn, seen⟩, B, m, mc⟩ : OpS)]) w6 (HV.out.kept HKZ.out (fun _ _ => id)) HVO.out hM5 (by omega) HPA.out
        have HOKB : Hid (∀ (W : World), Kept (fun _ => False) w W → ∀ q ∈ (al ++ [(⟨⟨kd, t, si, t0, s0, rn, st, nn, seen⟩, B, m, mc⟩ : OpS)]), OpOk W q) := fun W hk q hq => by
          rcases List.mem_append.1 hq with hq | hq
          · exact HOKS.out _ hk q hq
          · obtain rfl := List.mem_singleton.1 hq
            exact HB.out.kept hk (fun _ _ => id)
        have HLBL : Hid ((al ++ [(⟨⟨kd, t, si, t0, s0, rn, st, nn, seen⟩, B, m, mc⟩ : OpS)]).length = (k + 1)) := by show _ = _; rw [List.length_append, HLN.out]; rfl
        generalize hbl : (al ++ [(⟨⟨kd, t, si, t0, s0, rn, st, nn, seen⟩, B, m, mc⟩ : OpS)]) = bl at *
        clear hM5 hB5 hC5
        go_upto_region 17 with (go_at_call 53; refine cS.mono ?_; clear cS; rintro e w7 ⟨⟨T, W, tb, wb, vs', g, xc, rfl, hT, hW, hV, hg, hvo, htb, hst, hno, hwb, hl8⟩, hk7⟩; have HV7 := Lib.hid hV; have HG7 := Lib.hid hg; have HVO7 := Lib.hid hvo; have HTB := Lib.hid htb; have HST := Lib.hid hst; have HNO := Lib.hid hno; have HWB := Lib.hid hwb; have HL8 := Lib.hid hl8; have HT7 := Lib.hid hT; have HW7 := Lib.hid hW; have HK7 := Lib.hid hk7; clear hT hW hV hg hvo htb hst hno hwb hl8 hk7)
        skip
        have HKX := Lib.hid (HKZ.out.trans HK7.out)
        obtain ⟨A1, c1, rfl, hM1, hB1, hC1⟩ := own_ops HT7.out (fun q hq => HOKB.out _ HKX.out q (HTB.out q hq))
        have hwl : ∀ q ∈ wb, q ∈ bl := fun q hq => by
          have h := HWB.out
          rw [h] at hq
          exact (List.mem_filter.1 hq).1
        have hwn : wb.length ≤ (k + 1) := by
          have h := HWB.out
          rw [h]
          refine Nat.le_trans (List.length_filter_le _ _) ?_
          have h2 := HLBL.out
          omega
        obtain ⟨A2, c2, rfl, hM2, hB2, hC2⟩ := own_ops HW7.out (fun q hq => HOKB.out _ HKX.out q (hwl q hq))
        have cU := ownops_any A1 tb.length c1 tb w7 hM1 (cp_none hC1) (by have := HL8.out; omega) (fun q hq => (HPA.out q (HTB.out q hq)).2.2.2.1.1)
        have cV := fun W (hk : Kept (fun _ => False) w7 W) => ownops_any A2 wb.length c2 wb W (hM2.kept hk (fun _ _ => id) (fun _ _ _ _ => id)) (cp_none hC2) (by omega) (fun q hq => (HPA.out q (hwl q hq)).2.2.2.1.1)
        clear hM1 hB1 hC1 hM2 hB2 hC2 hwl
        generalize htn : tb.length = tn at *
        generalize hwm : wb.length = wm at *
        have HTN := Lib.hid htn
        have HWM := Lib.hid hwm
        clear htn hwm hwn
        go_wp2_with (first | (go_at_call 54; refine cU.mono ?_; clear cU; rintro e w8 ⟨⟨A3, c3, tl, rfl, q1, q2, q3, q4, q5, q6⟩, hk8⟩; have HR8 : Hid (OpsRet w7 tn tb (.returned (.slice A3 tn c3)) w8) := ⟨A3, c3, tl, rfl, q1, q2, q3, q4, q5, q6⟩; have HK8 := Lib.hid hk8; clear q1 q2 q3 q4 q5 q6 hk8) | (go_at_call 54; refine (cV _ HK8.out).mono ?_; clear cV; rintro e w9 ⟨⟨A4, c4, wl, rfl, q1, q2, q3, q4, q5, q6⟩, hk9⟩; have HR9 : Hid (OpsRet w8 wm wb (.returned (.slice A4 wm c4)) w9) := ⟨A4, c4, wl, rfl, q1, q2, q3, q4, q5, q6⟩; have HK9 := Lib.hid hk9; clear q1 q2 q3 q4 q5 q6 hk9))
        try simp only [Exit.inBlock, Exit.then]
        refine bodyPost_ret (results_tmp4 rfl _ _ _) rfl ?_
        obtain ⟨V1, V2, e1, e2, hR⟩ := add_ret HAL.out HPA.out HKZ.out HK7.out HK8.out HK9.out HV7.out HG7.out HVO7.out HTB.out HST.out HNO.out HWB.out HR8.out HR9.out
        injection e1 with e1
        injection e2 with e2
        subst e1
        subst e2
        exact ⟨hR, ((HKX.out.trans HK8.out).trans HK9.out)⟩
      · have HAL : Hid (Cd.wt vs (al.map (·.o)) ⟨kd, t, si, t0, s0, rn, st, nn, seen⟩ = al.map (·.o)) := by show _ = _; rw [HW.out, ← HG.out]; rfl
        go_upto_region 16 with (go_at_call 52; refine cC.mono ?_; clear cC; rintro e w5 ⟨⟨W5, rfl, hW5⟩, hk5⟩; have HK5 := Lib.hid (HK.out.trans hk5); have HW5 := Lib.hid hW5; clear hk5 hW5)
        obtain ⟨A5, n5, rfl, hM5, hB5, hC5⟩ := own_ops HW5.out (HOKS.out _ HK5.out)
        have HPA : Hid (∀ q ∈ al, Cd.opOk q.o) := HO.out
        have HKZ := Lib.hid HK5.out
        have cS := settle_any vad vc vs A5 k n5 al w5 (HV.out.kept HKZ.out (fun _ _ => id)) HVO.out hM5 (by omega) HPA.out
        have HOKB : Hid (∀ (W : World), Kept (fun _ => False) w W → ∀ q ∈ al, OpOk W q) := HOKS.out
        have HLBL : Hid (al.length = k) := by show _ = _; exact HLN.out
        clear hM5 hB5 hC5
        go_upto_region 17 with (go_at_call 53; refine cS.mono ?_; clear cS; rintro e w7 ⟨⟨T, W, tb, wb, vs', g, xc, rfl, hT, hW, hV, hg, hvo, htb, hst, hno, hwb, hl8⟩, hk7⟩; have HV7 := Lib.hid hV; have HG7 := Lib.hid hg; have HVO7 := Lib.hid hvo; have HTB := Lib.hid htb; have HST := Lib.hid hst; have HNO := Lib.hid hno; have HWB := Lib.hid hwb; have HL8 := Lib.hid hl8; have HT7 := Lib.hid hT; have HW7 := Lib.hid hW; have HK7 := Lib.hid hk7; clear hT hW hV hg hvo htb hst hno hwb hl8 hk7)
        skip
        have HKX := Lib.hid (HKZ.out.trans HK7.out)
        obtain ⟨A1, c1, rfl, hM1, hB1, hC1⟩ := own_ops HT7.out (fun q hq => HOKB.out _ HKX.out q (HTB.out q hq))
        have hwl : ∀ q ∈ wb, q ∈ al := fun q hq => by
          have h := HWB.out
          rw [h] at hq
          exact (List.mem_filter.1 hq).1
        have hwn : wb.length ≤ k := by
          have h := HWB.out
          rw [h]
          refine Nat.le_trans (List.length_filter_le _ _) ?_
          have h2 := HLBL.out
          omega
        obtain ⟨A2, c2, rfl, hM2, hB2, hC2⟩ := own_ops HW7.out (fun q hq => HOKB.out _ HKX.out q (hwl q hq))
        have cU := ownops_any A1 tb.length c1 tb w7 hM1 (cp_none hC1) (by have := HL8.out; omega) (fun q hq => (HPA.out q (HTB.out q hq)).2.2.2.1.1)
        have cV := fun W (hk : Kept (fun _ => False) w7 W) => ownops_any A2 wb.length c2 wb W (hM2.kept hk (fun _ _ => id) (fun _ _ _ _ => id)) (cp_none hC2) (by omega) (fun q hq => (HPA.out q (hwl q hq)).2.2.2.1.1)
        clear hM1 hB1 hC1 hM2 hB2 hC2 hwl
        generalize htn : tb.length = tn at *
        generalize hwm : wb.length = wm at *
        have HTN := Lib.hid htn
        have HWM := Lib.hid hwm
        clear htn hwm hwn
        go_wp2_with (first | (go_at_call 54; refine cU.mono ?_; clear cU; rintro e w8 ⟨⟨A3, c3, tl, rfl, q1, q2, q3, q4, q5, q6⟩, hk8⟩; have HR8 : Hid (OpsRet w7 tn tb (.returned (.slice A3 tn c3)) w8) := ⟨A3, c3, tl, rfl, q1, q2, q3, q4, q5, q6⟩; have HK8 := Lib.hid hk8; clear q1 q2 q3 q4 q5 q6 hk8) | (go_at_call 54; refine (cV _ HK8.out).mono ?_; clear cV; rintro e w9 ⟨⟨A4, c4, wl, rfl, q1, q2, q3, q4, q5, q6⟩, hk9⟩; have HR9 : Hid (OpsRet w8 wm wb (.returned (.slice A4 wm c4)) w9) := ⟨A4, c4, wl, rfl, q1, q2, q3, q4, q5, q6⟩; have HK9 := Lib.hid hk9; clear q1 q2 q3 q4 q5 q6 hk9))
        try simp only [Exit.inBlock, Exit.then]
        refine bodyPost_ret (results_tmp4 rfl _ _ _) rfl ?_
        obtain ⟨V1, V2, e1, e2, hR⟩ := add_ret HAL.out HPA.out HKZ.out HK7.out HK8.out HK9.out HV7.out HG7.out HVO7.out HTB.out HST.out HNO.out HWB.out HR8.out HR9.out
        injection e1 with e1
        injection e2 with e2
        subst e1
        subst e2
        exact ⟨hR, ((HKX.out.trans HK8.out).trans HK9.out)⟩
end Go.Proofs.YtpgicfbaefcbmaaDoor
