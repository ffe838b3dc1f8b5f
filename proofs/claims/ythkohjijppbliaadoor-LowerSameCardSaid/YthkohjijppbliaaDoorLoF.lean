/-
  ELEMENTS: where one stands.
-/
import Derived.Test.YthkohjijppbliaaDoorLoC
import Derived.Test.YthkohjijppbliaaDoorLMd
import Derived.Laws.ResultCell
import Derived.Lib.MinMax
set_option linter.unusedVariables false
namespace Go.Proofs.YthkohjijppbliaaDoor
open Go Go.RowKit

/-- Where an ID's element stands; -1: nowhere. -/
def idxE (L : List ElemS) (t s : Int) : Int := match L.findIdx? (fun e => decide (e.t = t ∧ e.si = s)) with
  | some i => (i : Nat)
  | none => -1
theorem idxE_first {L : List ElemS} {k : Nat} {e : ElemS} {t s : Int} (h : L[k]? = some e) (hz : e.t = t ∧ e.si = s) (hn : ∀ (j : Nat) (b : ElemS), j < k → L[j]? = some b → ¬ (b.t = t ∧ b.si = s)) : idxE L t s = (k : Nat) := by
  unfold idxE
  have e1 : L.findIdx? (fun e => decide (e.t = t ∧ e.si = s)) = some k := by
    rw [List.findIdx?_eq_some_iff_getElem]
    obtain ⟨hl, he⟩ := List.getElem?_eq_some_iff.1 h
    refine ⟨hl, by rw [he]; simpa using hz, fun j hj => ?_⟩
    have h2 := hn j _ hj (List.getElem?_eq_getElem (Nat.lt_trans hj hl))
    simpa using h2
  rw [e1]
theorem idxE_miss {L : List ElemS} {t s : Int} (h : ∀ e ∈ L, ¬ (e.t = t ∧ e.si = s)) : idxE L t s = -1 := by
  unfold idxE
  have e : L.findIdx? (fun e => decide (e.t = t ∧ e.si = s)) = none := by
    rw [List.findIdx?_eq_none_iff]
    intro x hx
    simpa using h x hx
  rw [e]
theorem idxE_some {L : List ElemS} {t s : Int} (h : 0 ≤ idxE L t s) : ∃ (j : Nat) (e : ElemS), idxE L t s = (j : Nat) ∧ L[j]? = some e ∧ e.t = t ∧ e.si = s := by
  unfold idxE at h ⊢
  cases hf : L.findIdx? (fun e => decide (e.t = t ∧ e.si = s)) with
  | none => rw [hf] at h; simp at h
  | some i =>
    obtain ⟨hl, he, _⟩ := List.findIdx?_eq_some_iff_getElem.1 hf
    have h2 := of_decide_eq_true he
    exact ⟨i, _, rfl, List.getElem?_eq_getElem hl, h2.1, h2.2⟩
theorem idxE_neg {L : List ElemS} {t s : Int} (h : idxE L t s < 0) : ∀ e ∈ L, ¬ (e.t = t ∧ e.si = s) := by
  intro e he hc
  obtain ⟨i, hi⟩ := List.getElem?_of_mem he
  unfold idxE at h
  cases hf : L.findIdx? (fun e => decide (e.t = t ∧ e.si = s)) with
  | none => exact absurd (List.findIdx?_eq_none_iff.1 hf e he) (by simpa using hc)
  | some j =>
    rw [hf] at h
    have h2 : ((j : Nat) : Int) < 0 := h
    omega
theorem idxE_ge (L : List ElemS) (t s : Int) : -1 ≤ idxE L t s := by
  unfold idxE
  split <;> omega
theorem idxE_lt (L : List ElemS) (t s : Int) : idxE L t s < L.length := by
  by_cases h : 0 ≤ idxE L t s
  · obtain ⟨j, e, h1, h2, _⟩ := idxE_some h
    obtain ⟨hl, _⟩ := List.getElem?_eq_some_iff.1 h2
    omega
  · omega
/-- Where IDs are one alone. -/
theorem idxE_hit {L : List ElemS} (hp : L.Pairwise (fun a b => ¬ sameId a b)) {k : Nat} {e : ElemS} {t s : Int} (h : L[k]? = some e) (hz : e.t = t ∧ e.si = s) : idxE L t s = (k : Nat) := by
  refine idxE_first h hz (fun j b hj hb hc => ?_)
  have h1 := List.pairwise_iff_getElem.1 hp
  obtain ⟨hl, he⟩ := List.getElem?_eq_some_iff.1 h
  obtain ⟨hl2, he2⟩ := List.getElem?_eq_some_iff.1 hb
  exact h1 j k hl2 hl hj (by rw [he, he2]; exact ⟨hc.1.trans hz.1.symm, hc.2.trans hz.2.symm⟩)
set_option maxRecDepth 100000 in
set_option maxHeartbeats 2000000 in
theorem findc_any (xb : Nat) (t s : Int) (e : ElemS) (w : World) (hX : w.heap[xb]? = some (.cells #[.int .i64 t, .int .i64 s] 39 (0, 0))) :
    Calls Tryd.prog 72 #[elemV e, .pointer (some ⟨xb, 0, none⟩)] w fun ee w' => ee = .returned (.bool (decide (e.t = t ∧ e.si = s))) ∧ Kept (fun _ => False) w w' := by
  have hk0 : Kept (fun _ => False) w (w.alloc (elemO e)) := (Kept.refl _ w).alloc _
  have HK0 := Lib.hid hk0
  have HE : Hid (El4 (w.alloc (elemO e)) ⟨w.heap.size, 0, none⟩ e) := el4_new
  have hX1 := (hk0.block xb (heap_lt hX) id).trans hX
  have x0 : (w.alloc (elemO e)).cell? ⟨xb, 0, none⟩ = some (.int .i64 t) := cell_of_row _ _ _ _ _ _ hX1
  have x1 : (w.alloc (elemO e)).cell? ⟨xb, 1, none⟩ = some (.int .i64 s) := cell_of_row _ _ _ _ _ _ hX1
  obtain ⟨R, hR⟩ : ∃ R, decide (e.t = t ∧ e.si = s) = R := ⟨_, rfl⟩
  rw [hR]
  have hss : ((e.t == t) = false ∧ R = false) ∨ ((e.t == t) = true ∧ (e.si == s) = false ∧ R = false) ∨ ((e.t == t) = true ∧ (e.si == s) = true ∧ R = true) := by
    by_cases h1 : e.t = t
    · by_cases h2 : e.si = s
      · exact .inr (.inr ⟨by simp [h1], by simp [h2], by rw [← hR]; exact decide_eq_true ⟨h1, h2⟩⟩)
      · exact .inr (.inl ⟨by simp [h1], beq_eq_false_iff_ne.2 h2, by rw [← hR]; exact decide_eq_false (fun h => h2 h.2)⟩)
    · exact .inl ⟨beq_eq_false_iff_ne.2 h1, by rw [← hR]; exact decide_eq_false (fun h => h1 h.1)⟩
  clear hk0 hX hX1 hR
  go_enter Tryd.func72, Tryd.ntmps72
  go_upto_region 1 with fail
  simp only [elemO] at HK0 HE x0 x1
  generalize w.alloc (.cells #[.int .i64 e.t, .int .i64 e.si, .int .i64 e.r, .bool e.d] 71) = w1 at *
  generalize w.heap.size = pb at *
  obtain ⟨c0, c1, c2, c3⟩ := HE.out.cs
  rcases hss with ⟨z1, rfl⟩ | ⟨z1, z2, rfl⟩ | ⟨z1, z2, rfl⟩
  all_goals
    go_wp2_with fail
    go_ret
    exact ⟨rfl, HK0.out⟩
set_option maxRecDepth 100000 in
set_option maxHeartbeats 4000000 in
theorem indexE_any (L : List ElemS) (v : Value) (xb : Nat) (t s : Int) (w : World) (h : Se w v L) (hn : L.length ≤ 100000) (hX : w.heap[xb]? = some (.cells #[.int .i64 t, .int .i64 s] 39 (0, 0))) :
    Calls Tryd.prog 71 #[v, .func (.func 72) #[] #[.pointer (some ⟨xb, 0, none⟩)]] w fun e w' => e = .returned (.int .i64 (idxE L t s)) ∧ Kept (fun _ => False) w w' := by
  obtain ⟨A, c, rfl, hA, _, _⟩ := h.open'
  obtain ⟨n, hN⟩ : ∃ n, L.length = n := ⟨_, rfl⟩
  rw [hN] at hn hA ⊢
  obtain ⟨C, hC⟩ : ∃ C, idxE L t s = C := ⟨_, rfl⟩
  rw [hC]
  have HC := Lib.hid hC
  have HA := Lib.hid hA
  have HX := Lib.hid hX
  have HN := Lib.hid hN
  clear h hA hX hN hC
  go_enter Tryd.func71, Tryd.ntmps71
  go_wp2_with fail
  go_loopw [8] (fun v wr => ∃ k : Nat, k ≤ n ∧ v = .int .i64 k ∧ (∀ (j : Nat) (b : ElemS), j < k → L[j]? = some b → ¬ (b.t = t ∧ b.si = s)) ∧ Kept (fun _ => False) w wr) (fun v _ => n - (intOf v).toNat)
  case atStart => exact ⟨0, Nat.zero_le _, rfl, (fun j b hj => absurd hj (Nat.not_lt_zero _)), Kept.refl _ _⟩
  case round =>
    obtain ⟨k, hk, rfl, hat, hkept⟩ := hrel
    have HK := Lib.hid hkept
    have HAT := Lib.hid hat
    clear hkept hat
    by_cases hlt : k < n
    · obtain ⟨ad, e, rfl, he, h4⟩ := (HA.out.kept HK.out (fun _ _ => id)).at_ hlt
      have cC := findc_any xb t s e wr ((HK.out.block xb (heap_lt HX.out) id).trans HX.out)
      have c0 := h4.c0
      have c1 := h4.c1
      have c2 := h4.c2
      have c3 := h4.c3
      have HE := Lib.hid he
      have b1 : decide (k < n) = true := decide_eq_true hlt
      have b2 : decide ((k : Int) < (n : Int)) = true := decide_eq_true (by omega)
      have t1 : (0 : Int) ≤ (k : Int) := by omega
      have t2 : (k : Int) < (n : Int) := by omega
      clear he h4
      by_cases hr : e.t = t ∧ e.si = s
      · rw [decide_eq_true hr] at cC
        have HV : Hid (C = (k : Int)) := by
          show _ = _
          rw [← HC.out]
          exact idxE_first HE.out hr HAT.out
        clear hr
        go_wp2_with (go_at_call 72; refine cC.mono ?_; clear cC; rintro ee w2 ⟨rfl, hk2⟩; have HK2 := Lib.hid (HK.out.trans hk2); clear hk2)
        go_ret
        exact ⟨by rw [HV.out]; rfl, HK2.out⟩
      · rw [decide_eq_false hr] at cC
        have HR : Hid (∀ (j : Nat) (b : ElemS), j < k + 1 → L[j]? = some b → ¬ (b.t = t ∧ b.si = s)) := fun j b hj hb => by
          by_cases e1 : j = k
          · subst e1
            rw [HE.out] at hb
            injection hb with hb
            subst hb
            exact hr
          · exact HAT.out j b (by omega) hb
        clear hr
        go_wp2_with (go_at_call 72; refine cC.mono ?_; clear cC; rintro ee w2 ⟨rfl, hk2⟩; have HK2 := Lib.hid (HK.out.trans hk2); clear hk2)
        go_roundw
        case rel => exact ⟨k + 1, by omega, by go_num, HR.out, HK2.out⟩
        case measure => simp [intOf] <;> omega
    · obtain rfl : k = n := by omega
      have b1 : decide (k < k) = false := decide_eq_false (by omega)
      have b2 : decide ((k : Int) < (k : Int)) = false := decide_eq_false (by omega)
      have HV : Hid (C = -1) := by
        show _ = _
        rw [← HC.out]
        refine idxE_miss (fun x hx h => ?_)
        obtain ⟨j, hj⟩ := List.getElem?_of_mem hx
        obtain ⟨hl, _⟩ := List.getElem?_eq_some_iff.1 hj
        exact HAT.out j x (by have := HN.out; omega) hj h
      go_wp2_with fail
      go_ret
      exact ⟨by rw [HV.out]; rfl, HK.out⟩
set_option maxRecDepth 100000 in
set_option maxHeartbeats 2000000 in
theorem find_any (L : List ElemS) (v : Value) (t s : Int) (w : World) (h : Se w v L) (hn : L.length ≤ 100000) :
    Calls Tryd.prog 41 #[v, idV t s] w fun e w' => e = .returned (.int .i64 (idxE L t s)) ∧ Kept (fun _ => False) w w' := by
  have hk0 : Kept (fun _ => False) w (w.alloc (.cells #[.int .i64 t, .int .i64 s] 39)) := (Kept.refl _ w).alloc _
  have cI := indexE_any L v w.heap.size t s (w.alloc (.cells #[.int .i64 t, .int .i64 s] 39)) (h.kept hk0) hn (heap_alloc_new w _)
  have HK0 := Lib.hid hk0
  clear h hk0
  go_enter Tryd.func41, Tryd.ntmps41
  go_upto_region 1 with fail
  generalize w.alloc _ = w1 at *
  generalize w.heap.size = pb at *
  go_wp2_with (go_at_call 71; refine cI.mono ?_; clear cI; rintro ee w2 ⟨rfl, hk2⟩; have HK2 := Lib.hid (HK0.out.trans hk2); clear hk2)
  go_ret
  exact ⟨rfl, HK2.out⟩
end Go.Proofs.YthkohjijppbliaaDoor
