/-
  ELEMENTS: whether they may be.
-/
import Derived.Test.YthkohjijppbliaaDoorLoB
import Derived.Test.YthkohjijppbliaaDoorLMd
set_option linter.unusedVariables false
namespace Go.Proofs.YthkohjijppbliaaDoor
open Go Go.RowKit

def ElemS.key (e : ElemS) : Nat := (e.t * 5 + e.si).toNat
/-- An element that may be. -/
def elOk (e : ElemS) : Prop := Cd.idOk e.t e.si ∧ Cd.ruOk e.r
instance (e : ElemS) : Decidable (elOk e) := by unfold elOk; infer_instance
/-- Of one ID. -/
def sameId (a b : ElemS) : Prop := a.t = b.t ∧ a.si = b.si
instance (a b : ElemS) : Decidable (sameId a b) := by unfold sameId; infer_instance
/-- Elements that may be. -/
def elsOk (L : List ElemS) : Prop := L.length ≤ 2000 ∧ (∀ e ∈ L, elOk e) ∧ L.Pairwise (fun a b => ¬ sameId a b)
instance (L : List ElemS) : Decidable (elsOk L) := by unfold elsOk; infer_instance
theorem key_int {e : ElemS} (h : elOk e) : e.t * 5 + e.si = (e.key : Int) := by
  have := h.1
  unfold Cd.idOk at this
  unfold ElemS.key
  omega
theorem key_same {a b : ElemS} (ha : elOk a) (hb : elOk b) (h : a.key = b.key) : sameId a b := by
  have h1 := key_int ha
  have h2 := key_int hb
  have h3 := ha.1
  have h4 := hb.1
  unfold Cd.idOk at h3 h4
  unfold sameId
  omega
theorem same_key {a b : ElemS} (h : sameId a b) : a.key = b.key := by
  unfold ElemS.key
  rw [h.1, h.2]
theorem zero_idsAll : Tryd.zeroCells107 = (List.replicate 782 (Value.int .u64 0)).toArray := by kernel_rfl
theorem ib_zero {w : World} {g : Nat} (h : w.heap[g]? = some (.cells Tryd.zeroCells107 107 (0, 0))) : Ib w g (fun x => ([] : List ElemS).any (fun e => e.key == x)) := by
  refine ⟨_, h, fun i hi => ⟨0, by decide, ?_, fun b hb => by simp⟩⟩
  rw [zero_idsAll, List.getElem?_toArray, List.getElem?_replicate, if_pos hi]
  rfl
theorem take_snoc {L : List ElemS} {k : Nat} {e : ElemS} (h : L[k]? = some e) : L.take (k + 1) = L.take k ++ [e] := by
  rw [List.take_add_one, h]; rfl
theorem elsOk_take {L : List ElemS} (h : elsOk L) (k : Nat) : (∀ e ∈ L.take k, elOk e) ∧ (L.take k).Pairwise (fun a b => ¬ sameId a b) :=
  ⟨fun e he => h.2.1 e (List.mem_of_mem_take he), h.2.2.sublist (List.take_sublist _ _)⟩
set_option maxRecDepth 100000 in
set_option maxHeartbeats 8000000 in
theorem ocheck_any (L : List ElemS) (v : Value) (w : World) (h : Se w v L) (hln : L.length ≤ 140737488351232) (hT : Tabs w) :
    Calls Tryd.prog 39 #[v] w fun e w' => e = .returned (.int .i64 (if elsOk L then 0 else 1)) ∧ Kept (fun _ => False) w w' := by
  obtain ⟨A, c, rfl, hA, _, _⟩ := h.open'
  obtain ⟨n, hN⟩ : ∃ n, L.length = n := ⟨_, rfl⟩
  rw [hN] at hA hln ⊢
  obtain ⟨R, hR⟩ : ∃ R : Int, (if elsOk L then 0 else 1) = R := ⟨_, rfl⟩
  rw [hR]
  have HR1 : Hid (¬ elsOk L → R = 1) := fun h => by rw [← hR, if_neg h]
  have HR0 : Hid (elsOk L → R = 0) := fun h => by rw [← hR, if_pos h]
  have HN := Lib.hid hN
  by_cases hbig : 2000 < n
  · have b0 : decide (2000 < n) = true := decide_eq_true hbig
    have b01 : decide ((2000 : Int) < (n : Int)) = true := decide_eq_true (by omega)
    have hr1 : R = 1 := HR1.out (fun h => by have := h.1; have := HN.out; omega)
    subst hr1
    clear h hA hT hR hN hbig
    go_enter Tryd.func39, Tryd.ntmps39
    go_wp2_with fail
    go_ret
    exact ⟨rfl, Kept.refl _ _⟩
  have hk0 : Kept (fun _ => False) w (w.alloc (.cells Tryd.zeroCells107 107)) := (Kept.refl _ w).alloc _
  have HI0 := Lib.hid (ib_zero (heap_alloc_new w (.cells Tryd.zeroCells107 107)))
  have HA := Lib.hid hA
  have HT := Lib.hid hT
  have HK0 := Lib.hid hk0
  have b0 : decide (2000 < n) = false := decide_eq_false (by omega)
  have b01 : decide ((2000 : Int) < (n : Int)) = false := decide_eq_false (by omega)
  have hn2 : n ≤ 2000 := by omega
  clear h hA hT hk0 hN hR hbig hln
  go_enter Tryd.func39, Tryd.ntmps39
  go_upto_region 4 with fail
  generalize w.alloc (.cells Tryd.zeroCells107 107) = w1 at *
  generalize hgg : w.heap.size = g at *
  have HG := Lib.hid hgg
  clear hgg b0 b01
  go_wp2_with fail
  go_loopw [11] (fun v wr => ∃ k : Nat, k ≤ n ∧ v = .int .i64 k ∧ ((∀ e ∈ L.take k, elOk e) ∧ (L.take k).Pairwise (fun a b => ¬ sameId a b) ∧ Ib wr g (fun x => (L.take k).any (fun e => e.key == x))) ∧ Kept (fun p => p = g) w1 wr) (fun v _ => n - (intOf v).toNat)
  case atStart => exact ⟨0, Nat.zero_le _, rfl, ⟨(fun e he => by simp at he), by simp, HI0.out⟩, Kept.refl _ _⟩
  case round =>
    obtain ⟨k, hk, rfl, ⟨hel, hpw, hid⟩, hkept⟩ := hrel
    have HK := Lib.hid hkept
    have HID := Lib.hid hid
    have HEL := Lib.hid hel
    have HPW := Lib.hid hpw
    clear hkept hid hel hpw
    have hkw : Kept (fun _ => False) w wr := HK0.out.fresh HK.out (fun p hp e => by have e : p = g := e; have := HG.out; omega)
    have HKW := Lib.hid hkw
    clear hkw
    by_cases hlt : k < n
    · obtain ⟨ad, e, rfl, he, h4'⟩ := (HA.out.kept HKW.out (fun _ _ => id)).at_ hlt
      have c0 := h4'.c0
      have c1 := h4'.c1
      have c2 := h4'.c2
      have c3 := h4'.c3
      have b1 : decide (k < n) = true := decide_eq_true hlt
      have b2 : decide ((k : Int) < (n : Int)) = true := decide_eq_true (by omega)
      have t1 : (0 : Int) ≤ (k : Int) := by omega
      have t2 : (k : Int) < (n : Int) := by omega
      have HEG := Lib.hid he
      have cM := fun W => mayid_any e.t e.si W
      have cR := fun W (hT' : Tabs W) => isrune_any e.r W hT'
      have hk5 : Kept (fun _ => False) wr (wr.alloc (elemO e)) := (Kept.refl _ wr).alloc _
      have HE5 : Hid (El4 (wr.alloc (elemO e)) ⟨wr.heap.size, 0, none⟩ e) := el4_new
      have HI5 := Lib.hid (HID.out.kept hk5 id)
      have HK5 := Lib.hid hk5
      clear he h4' hk5
      go_upto_region 7 with fail
      clear c0 c1 c2 c3
      simp only [elemO] at HE5 HI5 HK5
      generalize wr.alloc (.cells #[.int .i64 e.t, .int .i64 e.si, .int .i64 e.r, .bool e.d] 71) = w5 at *
      generalize wr.heap.size = q at *
      obtain ⟨x0, x1, x2, x3⟩ := HE5.out.cs
      by_cases hido : Cd.idOk e.t e.si
      · rw [decide_eq_true hido] at cM
        by_cases hru : Cd.ruOk e.r
        · rw [decide_eq_true hru] at cR
          have HOK : Hid (elOk e) := ⟨hido, hru⟩
          have hKi := key_int HOK.out
          obtain ⟨hi1, hi2⟩ := hido
          obtain ⟨B, hB⟩ : ∃ B, (L.take k).any (fun x => x.key == e.key) = B := ⟨_, rfl⟩
          have HB := Lib.hid hB
          cases B with
          | true =>
            have cA := fun W (hI : Ib W g (fun x => (L.take k).any (fun e => e.key == x))) => add_old g e.t e.si e.key _ hKi (by omega) (by omega) W hI HB.out
            have hr1 : R = 1 := HR1.out (fun h => by
              obtain ⟨a, ha, hae⟩ := List.any_eq_true.1 HB.out
              have h2 := (elsOk_take h (k + 1)).2
              rw [take_snoc HEG.out, List.pairwise_append] at h2
              exact h2.2.2 a ha e (by simp) (key_same (HEL.out a ha) HOK.out (by simpa using hae)))
            subst hr1
            clear hru hi1 hi2 hB hKi
            go_wp2_with (first
              | (go_at_call 67; refine (cM _).mono ?_; rintro ee w6 ⟨rfl, hk6⟩; have HK6 := Lib.hid (HK5.out.trans hk6); have HI6 := Lib.hid (HI5.out.kept hk6 id); have HE6 := Lib.hid (HE5.out.kept hk6 id); clear cM x0 x1 x2 x3 hk6; obtain ⟨x0, x1, x2, x3⟩ := HE6.out.cs)
              | (go_at_call 68; refine (cR _ (HT.out.kept (HKW.out.trans HK6.out) id id)).mono ?_; rintro ee w7 ⟨rfl, hk7⟩; have HK7 := Lib.hid (HK6.out.trans hk7); have HI7 := Lib.hid (HI6.out.kept hk7 id); have HE7 := Lib.hid (HE6.out.kept hk7 id); clear cR x0 x1 x2 x3 hk7; obtain ⟨x0, x1, x2, x3⟩ := HE7.out.cs)
              | (go_at_call 57; refine (cA _ HI7.out).mono ?_; rintro ee w8 ⟨rfl, hk8⟩; have HK8 := Lib.hid (HK7.out.trans hk8); clear hk8 cA))
            go_ret
            exact ⟨rfl, HKW.out.trans HK8.out⟩
          | false =>
            have cA := fun W (hI : Ib W g (fun x => (L.take k).any (fun e => e.key == x))) => add_new g e.t e.si e.key _ hKi (by omega) (by omega) W hI HB.out
            have HNX : Hid (∀ W, Ib W g (fun x => decide (x = e.key) || (L.take k).any (fun e => e.key == x)) → (∀ e ∈ L.take (k + 1), elOk e) ∧ (L.take (k + 1)).Pairwise (fun a b => ¬ sameId a b) ∧ Ib W g (fun x => (L.take (k + 1)).any (fun e => e.key == x))) := by
              show ∀ W, _
              intro W hI
              rw [take_snoc HEG.out]
              refine ⟨fun a ha => ?_, ?_, ?_⟩
              · rcases List.mem_append.1 ha with ha | ha
                · exact HEL.out a ha
                · rw [List.mem_singleton.1 ha]; exact HOK.out
              · rw [List.pairwise_append]
                refine ⟨HPW.out, by simp, fun a ha b hb hs => ?_⟩
                rw [List.mem_singleton.1 hb] at hs
                have h3 : (L.take k).any (fun x => x.key == e.key) = true := List.any_eq_true.2 ⟨a, ha, by simp [same_key hs]⟩
                rw [HB.out] at h3
                cases h3
              · have : (fun x => (L.take k ++ [e]).any (fun e => e.key == x)) = (fun x => decide (x = e.key) || (L.take k).any (fun e => e.key == x)) := by
                  funext x
                  rw [List.any_append, Bool.or_comm]
                  congr 1
                  rw [List.any_cons, List.any_nil, Bool.or_false]
                  by_cases hx : x = e.key
                  · subst hx; simp
                  · have hx2 : (e.key == x) = false := by rw [beq_eq_false_iff_ne]; exact fun h => hx h.symm
                    rw [hx2, decide_eq_false hx]
                rw [this]
                exact hI
            clear hru hi1 hi2 hB hKi
            go_wp2_with (first
              | (go_at_call 67; refine (cM _).mono ?_; rintro ee w6 ⟨rfl, hk6⟩; have HK6 := Lib.hid (HK5.out.trans hk6); have HI6 := Lib.hid (HI5.out.kept hk6 id); have HE6 := Lib.hid (HE5.out.kept hk6 id); clear cM x0 x1 x2 x3 hk6; obtain ⟨x0, x1, x2, x3⟩ := HE6.out.cs)
              | (go_at_call 68; refine (cR _ (HT.out.kept (HKW.out.trans HK6.out) id id)).mono ?_; rintro ee w7 ⟨rfl, hk7⟩; have HK7 := Lib.hid (HK6.out.trans hk7); have HI7 := Lib.hid (HI6.out.kept hk7 id); have HE7 := Lib.hid (HE6.out.kept hk7 id); clear cR x0 x1 x2 x3 hk7; obtain ⟨x0, x1, x2, x3⟩ := HE7.out.cs)
              | (go_at_call 57; refine (cA _ HI7.out).mono ?_; rintro ee w8 ⟨rfl, hi8, hk8⟩; have HK8 := Lib.hid (HK.out.trans (HK7.out.any.trans hk8)); have HI8 := Lib.hid hi8; clear hi8 hk8 cA))
            go_roundw
            case rel => exact ⟨k + 1, by omega, by go_num, HNX.out _ HI8.out, HK8.out⟩
            case measure => simp [intOf] <;> omega
        · rw [decide_eq_false hru] at cR
          have hr1 : R = 1 := HR1.out (fun h => hru (h.2.1 e (List.mem_of_getElem? HEG.out)).2)
          subst hr1
          clear hru hido
          go_wp2_with (first
            | (go_at_call 67; refine (cM _).mono ?_; rintro ee w6 ⟨rfl, hk6⟩; have HK6 := Lib.hid (HK5.out.trans hk6); have HE6 := Lib.hid (HE5.out.kept hk6 id); clear cM x0 x1 x2 x3 hk6; obtain ⟨x0, x1, x2, x3⟩ := HE6.out.cs)
            | (go_at_call 68; refine (cR _ (HT.out.kept (HKW.out.trans HK6.out) id id)).mono ?_; rintro ee w7 ⟨rfl, hk7⟩; have HK7 := Lib.hid (HK6.out.trans hk7); clear cR x0 x1 x2 x3 hk7))
          go_ret
          exact ⟨rfl, HKW.out.trans HK7.out⟩
      · rw [decide_eq_false hido] at cM
        have hr1 : R = 1 := HR1.out (fun h => hido (h.2.1 e (List.mem_of_getElem? HEG.out)).1)
        subst hr1
        clear hido
        go_wp2_with (first
          | (go_at_call 67; refine (cM _).mono ?_; rintro ee w6 ⟨rfl, hk6⟩; have HK6 := Lib.hid (HK5.out.trans hk6); clear cM x0 x1 x2 x3 hk6))
        go_ret
        exact ⟨rfl, HKW.out.trans HK6.out⟩
    · obtain rfl : k = n := by omega
      have b1 : decide (k < k) = false := decide_eq_false (by omega)
      have b2 : decide ((k : Int) < (k : Int)) = false := decide_eq_false (by omega)
      have hr0 : R = 0 := HR0.out (by
        have h1 := HEL.out
        have h2 := HPW.out
        rw [List.take_of_length_le (by rw [HN.out]; exact Nat.le_refl _)] at h1 h2
        exact ⟨by have := HN.out; omega, h1, h2⟩)
      subst hr0
      go_wp2_with fail
      go_ret
      exact ⟨rfl, HKW.out⟩
end Go.Proofs.YthkohjijppbliaaDoor
