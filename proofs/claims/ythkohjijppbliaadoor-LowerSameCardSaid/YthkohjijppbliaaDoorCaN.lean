/-
  CAUSAL ORDER: own.Ops, walked.
-/
import Derived.Test.YthkohjijppbliaaDoorCaM
set_option linter.unusedVariables false
namespace Go.Proofs.YthkohjijppbliaaDoor
open Go Go.RowKit

/-- What own.Ops tells. -/
def OpsRet (w : World) (n : Nat) (al : List OpS) (e : Ending) (w' : World) : Prop :=
  ∃ (A : Option Addr) (c : Nat) (bl : List OpS), e = .returned (.slice A n c) ∧ OpsM w' A n bl ∧ bl.map (·.o) = al.map (·.o) ∧ Cp A n c ∧ (∀ a, A = some a → w.heap.size ≤ a.block) ∧ (∀ b ∈ bl, ∀ a, b.A = some a → w.heap.size ≤ a.block) ∧ Own2 w' w.heap.size w'.heap.size A n c bl ∧ w'.ownsRow w.heap.size 42 9 (.slice A n c) n (flatO bl)
theorem own_mono {w : World} {B B' n size : Nat} {e : TypeId} {v : Value} {xs : List Value} (h : w.ownsRow B e size v n xs) (hb : B' ≤ B) : w.ownsRow B' e size v n xs := by
  refine ⟨h.1, ?_⟩
  rcases h.2 with h1 | ⟨g, cap, cur, h1, h2, h3⟩
  · exact .inl h1
  · exact .inr ⟨g, cap, cur, h1, Nat.le_trans hb h2, h3⟩
set_option maxRecDepth 100000 in
set_option maxHeartbeats 4000000 in
theorem ownops_any (A : Option Addr) (n c : Nat) (al : List OpS) (w : World) (hA : OpsM w A n al) (hC : A = none → n = 0 ∧ c = 0) (hn : n ≤ 20000) (h4 : ∀ b ∈ al, b.o.seen.length = 4) :
    Calls Tryd.prog 54 #[.slice A n c] w fun e w' => OpsRet w n al e w' ∧ Kept (fun _ => False) w w' := by
  have HA := Lib.hid hA
  have HC := Lib.hid hC
  have H4 := Lib.hid h4
  have HLN : Hid (al.length = n) := hA.1
  clear hA hC h4
  go_enter Tryd.func54, Tryd.ntmps54
  go_wp2_with fail
  go_loopw [3, 13] (fun v i wr => ∃ k N : Nat, k ≤ n ∧ i = .int .i64 k ∧ v = .int .i64 N ∧ N = 4 * k ∧ Kept (fun _ => False) w wr) (fun _ i _ => n - (intOf i).toNat)
  case atStart => exact ⟨0, 0, Nat.zero_le _, rfl, rfl, rfl, Kept.refl _ _⟩
  case round =>
    obtain ⟨k, N, hk, rfl, rfl, hN, hkept⟩ := hrel
    have HK := Lib.hid hkept
    clear hkept
    by_cases hlt : k < n
    · obtain ⟨ad, b, rfl, hb, h9, hok⟩ := (HA.out.kept HK.out (fun _ _ => id) (fun _ _ _ _ => id)).at_ hlt
      have hbn : b.n = 4 := by rw [← hok.seen.1]; exact H4.out b (List.mem_of_getElem? hb)
      have hk1 : Kept (fun _ => False) wr (wr.alloc (opO b)) := (Kept.refl _ _).alloc _
      have HK1 := Lib.hid (HK.out.trans hk1)
      have HO : Hid (Op9 (wr.alloc (opO b)) ⟨wr.heap.size, 0, none⟩ b) := op9_new
      obtain ⟨c0, c1, c2, c3, c4, c5, c6, c7, c8⟩ := h9
      obtain ⟨⟨kd, t, si, t0, s0, rn, st, nn, seen⟩, B, m, mc⟩ := b
      simp only at c0 c1 c2 c3 c4 c5 c6 c7 c8 hbn
      subst hbn
      have b1 : decide (k < n) = true := decide_eq_true hlt
      have b2 : decide ((k : Int) < (n : Int)) = true := decide_eq_true (by omega)
      have t1 : (0 : Int) ≤ (k : Int) := by omega
      have t2 : (k : Int) < (n : Int) := by omega
      have ew : IntKind.i64.wrap ((N : Int) + 4) = ((N + 4 : Nat) : Int) := by rw [IntWalk.i64_in _ ⟨by omega, by omega⟩]; omega
      clear hb hok hk1
      go_upto_region 5 with fail
      clear c0 c1 c2 c3 c4 c5 c6 c7 c8
      simp only [opO] at HO HK1
      generalize wr.alloc (.cells #[.int .i64 kd, .int .i64 t, .int .i64 si, .int .i64 t0, .int .i64 s0, .int .i64 rn, .int .i64 st, .int .i64 nn, .slice B 4 mc] 42) = w2 at *
      generalize wr.heap.size = ob at *
      obtain ⟨c0, c1, c2, c3, c4, c5, c6, c7, c8⟩ := HO.out.cs
      simp only at c0 c1 c2 c3 c4 c5 c6 c7 c8
      go_wp2_with fail
      go_roundw
      case rel => exact ⟨k + 1, N + 4, by omega, by go_num, by go_num, by omega, HK1.out⟩
      case measure => simp [intOf] <;> omega
    · obtain rfl : k = n := by omega
      have b1 : decide (k < k) = false := decide_eq_false (by omega)
      have b2 : decide ((k : Int) < (k : Int)) = false := decide_eq_false (by omega)
      obtain ⟨w1, hmk, hvm, hkm⟩ := make_ints N wr (by omega)
      obtain ⟨s, hs⟩ : ∃ s, wr.heap.size = s := ⟨_, rfl⟩
      rw [hs] at hmk hvm
      have cC := oclone_any A k c al w1 (HA.out.kept (HK.out.trans hkm) (fun _ _ => id) (fun _ _ _ _ => id)) HC.out (by omega)
      have HN := Lib.hid hN
      have HSL : Hid (w.heap.size ≤ s ∧ s < w1.heap.size) := by
        show _ ∧ _
        have h1 := HK.out.size
        have h2 := hvm.lt
        omega
      have HV := Lib.hid hvm
      have HK1 := Lib.hid (HK.out.trans hkm)
      have HK1r := Lib.hid hkm
      clear hN hvm hkm hs
      go_wp2_with (go_at_call 30; refine cC.mono ?_; rintro e w2 ⟨⟨X, rfl, hX⟩, hk2⟩; have HX := Lib.hid hX; have HK2 := Lib.hid hk2; clear hX hk2)
      clear cC hmk
      obtain ⟨A', cx, xg, rfl, hCp, hBlk, hxb0, hXm⟩ : ∃ A' cx xg, X = .slice A' k cx ∧ Cp A' k cx ∧ (∀ a, A' = some a → w1.heap.size ≤ a.block) ∧ w1.heap.size ≤ xg ∧ (0 < k → A' = some ⟨xg, 0, none⟩ ∧ Xm w2 xg cx al ∧ w1.heap.size ≤ xg ∧ cx ≤ maxLen) := by
        rcases HX.out.2 with ⟨e, h0⟩ | ⟨g, cap, cur, e, hb, hh, hcap, hmx, hcs, hct⟩
        · exact ⟨none, 0, w1.heap.size, by rw [e, h0], ⟨by omega, fun _ => rfl⟩, (fun a ha => by cases ha), Nat.le_refl _, fun h => by omega⟩
        · refine ⟨_, cap, g, e, ⟨hcap, fun h => by cases h⟩, (fun a ha => by cases ha; exact hb), hb, fun _ => ⟨rfl, ⟨⟨cur, hh, hcs, ?_⟩, by rw [HLN.out]; exact hcap⟩, hb, hmx⟩⟩
          rw [HLN.out]
          exact hct
      have HCP := Lib.hid hCp
      have HBL := Lib.hid hBlk
      have HXM := Lib.hid hXm
      have HXB := Lib.hid hxb0
      have HV2 := Lib.hid (HV.out.kept HK2.out id)
      have HKA := Lib.hid (HK1.out.trans HK2.out)
      have HS1 := Lib.hid HK2.out.size
      have HR0 := Lib.hid (HX.out)
      clear hCp hBlk hXm HX hxb0
      go_loopw [6, 29] (fun S i wr => ∃ (q M : Nat), q ≤ k ∧ i = .int .i64 q ∧ S = .slice (some ⟨s, 0, none⟩) M N ∧ M = 4 * q ∧ Vm wr s N (seens (al.take q)) ∧ (0 < k → Xm wr xg cx (mid (cps s 0 al) al q)) ∧ (k = 0 → wr.ownsRow w1.heap.size 42 9 (.slice A' k cx) k (flatO al)) ∧ Kept (fun z => z = s ∨ z = xg) w2 wr) (fun _ i _ => k - (intOf i).toNat)
      case atStart => exact ⟨0, 0, Nat.zero_le _, rfl, rfl, rfl, HV2.out, (fun h => by rw [mid_zero]; exact (HXM.out h).2.1), (fun _ => HR0.out), Kept.refl _ _⟩
      case round =>
        obtain ⟨q, M, hq, rfl, rfl, hM, hvm, hxm, hr0, hkept⟩ := hrel
        have HRQ := Lib.hid hr0
        have HVM := Lib.hid hvm
        have HXQ := Lib.hid hxm
        have HKQ := Lib.hid hkept
        clear hvm hxm hkept hr0
        by_cases hlt : q < k
        · obtain ⟨rfl, _, hxb, hmx⟩ := HXM.out (by omega)
          have hX := HXQ.out (by omega)
          have hkw : Kept (fun _ => False) w wr := HKA.out.fresh HKQ.out (fun z hz e => by
            have e : z = s ∨ z = xg := e
            have h1 := HSL.out
            rcases e with e | e <;> omega)
          obtain ⟨ad, b, rfl, hb, h9, hok⟩ := (HA.out.kept hkw (fun _ _ => id) (fun _ _ _ _ => id)).at_ hlt
          have hb4 := H4.out b (List.mem_of_getElem? hb)
          have hbn : b.n = 4 := by rw [← hok.seen.1]; exact hb4
          obtain ⟨sa, y, hsa, _, _⟩ := hok.seen.one (show 0 < b.n by omega)
          have hk1 : Kept (fun _ => False) wr (wr.alloc (opO b)) := (Kept.refl _ _).alloc _
          have hNS := hok.seen.kept hk1 (fun _ _ => id)
          have HKQ1 := Lib.hid (HKQ.out.trans hk1.any)
          have HO : Hid (Op9 (wr.alloc (opO b)) ⟨wr.heap.size, 0, none⟩ b) := op9_new
          have hvm1 := HVM.out.kept hk1 id
          have HX1 := Lib.hid (hX.kept hk1 id)
          have HSS := Lib.hid (seens_snoc hb)
          have hsl : (seens (al.take q)).length = M := by
            rw [seens_len (fun z hz => H4.out z (List.mem_of_mem_take hz)), List.length_take]
            have := HLN.out
            omega
          have HMG : Hid ((mid (cps s 0 al) al q)[q]? = some b) := by
            show _ = _
            rw [mid_get (cps_len s al 0) (by have := HLN.out; omega)]
            exact hb
          have HMS : Hid ((mid (cps s 0 al) al q).set q ⟨b.o, some ⟨s, M, none⟩, 4, 4⟩ = mid (cps s 0 al) al (q + 1)) := by
            show _ = _
            refine mid_set (cps_len s al 0) (by have := HLN.out; omega) ?_
            rw [cps_get, hb, hM, Nat.zero_add]
            rfl
          obtain ⟨c0, c1, c2, c3, c4, c5, c6, c7, c8⟩ := h9
          obtain ⟨⟨kd, t, si, t0, s0, rn, st, nn, seen⟩, B, m, mc⟩ := b
          simp only at c0 c1 c2 c3 c4 c5 c6 c7 c8 hbn hsa hb4 hNS HSS HMG HMS
          subst hbn
          subst hsa
          have b1 : decide (q < k) = true := decide_eq_true hlt
          have b2 : decide ((q : Int) < (k : Int)) = true := decide_eq_true (by omega)
          have t1 : (0 : Int) ≤ (q : Int) := by omega
          have t2 : (q : Int) < (k : Int) := by omega
          have HNS := Lib.hid hNS
          have HV1 := Lib.hid hvm1
          have HHM := Lib.hid hM
          clear hb hok hk1 hX hkw hNS hvm1 hM hmx
          go_upto_region 12 with fail
          clear c0 c1 c2 c3 c4 c5 c6 c7 c8
          simp only [opO] at HO HKQ1 HV1 HX1 HNS
          generalize wr.alloc (.cells #[.int .i64 kd, .int .i64 t, .int .i64 si, .int .i64 t0, .int .i64 s0, .int .i64 rn, .int .i64 st, .int .i64 nn, .slice (some sa) 4 mc] 42) = w5 at *
          generalize wr.heap.size = ob at *
          obtain ⟨c0, c1, c2, c3, c4, c5, c6, c7, c8⟩ := HO.out.cs
          simp only at c0 c1 c2 c3 c4 c5 c6 c7 c8
          generalize hso : seens (al.take q) = so at *
          have hvm := HV1.out
          go_upto_region 14 with (at_builtin; refine wpList_vm rfl (.tmp 36) (.tmp 38) rfl hvm seen M 4 hsl hb4 (by have h1 := HHM.out; have h2 := HN.out; omega) rfl sa mc rfl (nums_news HNS.out) ?_; intro w6 hvm6 hk6; have HV6 := Lib.hid hvm6; have HX6 := Lib.hid (HX1.out.kept hk6 (fun e => by have e : xg = s := e; have h := HSL.out; omega)); have HK6 := Lib.hid (HKQ1.out.trans (hk6.mono (fun z _ e => .inl e))); clear hvm6 hk6)
          have x0 := HX6.out.cell (flatO_get HMG.out (f := 8) rfl)
          have f0 := HX6.out.free (q * 9 + 8)
          have t3 : (0 : Int) ≤ (M : Int) := by omega
          clear c0 c1 c2 c3 c4 c5 c6 c7 c8 hvm
          have HSO := Lib.hid hso
          have hMN : M + 4 ≤ N := by have h1 := HHM.out; have h2 := HN.out; omega
          go_wp2_with fail
          have hM := HHM.out
          have hks : Kept (fun z => z = xg) w6 (w6.setCell ⟨xg, q * 9 + 8, none⟩ (.slice (some ⟨s, M, none⟩) 4 4)) := (Kept.refl (fun z => z = xg) w6).setCell (p := ⟨xg, q * 9 + 8, none⟩) rfl _
          go_roundw
          case rel => exact ⟨q + 1, M + 4, by omega, by go_num, rfl, by omega, by rw [HSS.out]; exact HV6.out.kept hks (fun e => by have e : s = xg := e; have h := HSL.out; omega), fun _ => by rw [← HMS.out]; exact HX6.out.set HMG.out _ _ _, (fun h => absurd h (by omega)), HK6.out.trans (hks.mono (fun z _ e => .inr e))⟩
          case measure => simp [intOf] <;> omega
        · obtain rfl : q = k := by omega
          have b1 : decide (q < q) = false := decide_eq_false (by omega)
          have b2 : decide ((q : Int) < (q : Int)) = false := decide_eq_false (by omega)
          go_wp2_with fail
          go_ret
          have hSL := HSL.out
          have hAL := HLN.out
          refine ⟨⟨A', cx, cps s 0 al, rfl, ?_, cps_o s al 0, HCP.out, fun a ha => by have h1 := HBL.out a ha; omega, fun b hb a ha => ?_, ?_, ?_⟩, HKA.out.fresh HKQ.out (fun z hz e => by
            have e : z = s ∨ z = xg := e
            rcases e with e | e
            · omega
            · have := HXB.out
              omega)⟩
          · by_cases h0 : 0 < q
            · obtain ⟨rfl, _, hxb, hmx⟩ := HXM.out h0
              have hX := HXQ.out h0
              rw [mid_end (cps_len s al 0) (by omega)] at hX
              have hV := HVM.out
              rw [List.take_of_length_le (by omega)] at hV
              exact cps_ok hX hV hAL H4.out (fun b hb => by
                obtain ⟨i, hi, rfl⟩ := List.getElem_of_mem hb
                have := (HA.out.2 i _ (List.getElem?_eq_getElem hi)).2
                exact ⟨this.nums, this.ints⟩)
            · obtain rfl : q = 0 := by omega
              obtain rfl := List.eq_nil_of_length_eq_zero hAL
              exact ⟨rfl, fun j b hj => by simp [cps] at hj⟩
          · obtain ⟨i, hi, rfl⟩ := List.getElem_of_mem hb
            have hg := cps_get s al 0 i
            rw [List.getElem?_eq_getElem hi] at hg
            cases hq2 : al[i]? with
            | none => rw [hq2] at hg; cases hg
            | some z =>
              rw [hq2] at hg
              simp only [Option.map_some, Option.some.injEq] at hg
              rw [hg] at ha
              injection ha with ha
              subst ha
              exact hSL.1
          · by_cases h0 : 0 < q
            · obtain ⟨rfl, _, hxb, hmx⟩ := HXM.out h0
              have hX := HXQ.out h0
              rw [mid_end (cps_len s al 0) (by omega)] at hX
              have hV := HVM.out
              rw [List.take_of_length_le (by omega)] at hV
              exact .inr ⟨xg, s, N, al, rfl, rfl, hX, hV, H4.out, ⟨hSL.1, hV.lt⟩, ⟨by omega, hX.lt⟩, by omega⟩
            · exact .inl (by omega)
          · by_cases h0 : 0 < q
            · obtain ⟨rfl, _, hxb, hmx⟩ := HXM.out h0
              have hX := HXQ.out h0
              rw [mid_end (cps_len s al 0) (by omega)] at hX
              obtain ⟨cur, hc1, hc2, hc3⟩ := hX.h
              have hcl := cps_len s al 0
              refine ⟨by rw [flatO_len, hcl, hAL], .inr ⟨xg, cx, cur, rfl, by omega, hc1, ?_, hmx, hc2, ?_⟩⟩
              · have := hX.le
                omega
              · rw [hcl, hAL] at hc3
                exact hc3
            · obtain rfl : q = 0 := by omega
              obtain rfl := List.eq_nil_of_length_eq_zero hAL
              exact own_mono (HRQ.out rfl) (by omega)
end Go.Proofs.YthkohjijppbliaaDoor
