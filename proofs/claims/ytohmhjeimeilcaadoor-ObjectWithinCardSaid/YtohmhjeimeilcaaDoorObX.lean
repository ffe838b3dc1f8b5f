/-
  PLAIN: what a tells has all that i tells.
-/
import Derived.Test.YtohmhjeimeilcaaDoorObS
set_option linter.unusedVariables false
namespace Go.Proofs.YtohmhjeimeilcaaDoor
open Go Go.RowKit

theorem opn_sht (a b : Nat) (ha : a < 3) (hb : b < 3) : Rw.opn a ≠ Rw.sht b := by
  match a, b, ha, hb with
  | 0, 0, _, _ => decide
  | 0, 1, _, _ => decide
  | 0, 2, _, _ => decide
  | 1, 0, _, _ => decide
  | 1, 1, _, _ => decide
  | 1, 2, _, _ => decide
  | 2, 0, _, _ => decide
  | 2, 1, _, _ => decide
  | 2, 2, _, _ => decide
theorem around_order {t : List Int} {k : Nat} {kind : Int} {cnt x : Nat} {y : Int} (hkind : kind = 40 ∨ kind = 91 ∨ kind = 123) (h : Rw.around t k kind cnt = some (x, y)) : (x : Int) + 1 ≤ y := by
  obtain ⟨h1, h2, h3, h4⟩ := Rw.arn_some _ _ _ _ (by omega) h
  unfold Rw.mt at h4
  cases hm : Rw.mate t x with
  | none => rw [hm] at h4; simp only at h4; omega
  | some m =>
    rw [hm] at h4
    simp only at h4
    obtain ⟨j, hj, hh⟩ := Rw.mate_kind hm
    rcases hh with ⟨_, _, hlt⟩ | ⟨hs, _, _⟩
    · omega
    · exfalso
      rw [h2] at hs
      injection hs with hs
      have : ∃ i, i < 3 ∧ Rw.opn i = kind := by
        rcases hkind with rfl | rfl | rfl
        · exact ⟨0, by decide, rfl⟩
        · exact ⟨1, by decide, rfl⟩
        · exact ⟨2, by decide, rfl⟩
      obtain ⟨i, hi, hi2⟩ := this
      exact opn_sht i j hi hj (hi2.trans hs)
/-- What holds of a range within another. -/
def Within (t : List Int) (key : Int) (lo hi lo' hi' : Int) (l l' : Bool) : Prop := lo ≤ hi ∧ lo' ≤ lo ∧ hi ≤ hi' ∧ l = l' ∧ l = (key == 112) ∧ hi' ≤ (t.length : Int)
theorem within_br {t : List Int} {k : Nat} {key kind lo hi lo' hi' : Int} {l l' : Bool} (hk : k ≤ t.length) (hkind : kind = 40 ∨ kind = 91 ∨ kind = 123) (hb : Rw.brk key = some kind) (hk112 : (key == 112) = false)
    (h1 : Rw.pce t k 105 key 1 = some (lo, hi, l)) (h2 : Rw.pce t k 97 key 1 = some (lo', hi', l')) : Within t key lo hi lo' hi' l l' := by
  unfold Rw.pce at h1 h2
  rw [hb] at h1 h2
  simp only at h1 h2
  cases ha : Rw.around t k kind 1 with
  | none => rw [ha] at h1; cases h1
  | some p =>
    obtain ⟨x, y⟩ := p
    have ho := around_order hkind ha
    obtain ⟨b1, b2, b3⟩ := around_bound ha
    rw [ha] at h1 h2
    simp only [Option.map_some, Rw.ins, if_true, Option.some.injEq, Prod.mk.injEq] at h1
    simp only [Option.map_some, Rw.ins, show ¬ ((97 : Int) = 105) by decide, if_false, Option.some.injEq, Prod.mk.injEq] at h2
    obtain ⟨rfl, rfl, rfl⟩ := h1
    obtain ⟨rfl, rfl, rfl⟩ := h2
    exact ⟨ho, by omega, by omega, rfl, hk112.symm, by omega⟩
theorem within_q {t : List Int} {k : Nat} {lo hi lo' hi' : Int} {l l' : Bool} (hk : k ≤ t.length)
    (h1 : Rw.pce t k 105 34 1 = some (lo, hi, l)) (h2 : Rw.pce t k 97 34 1 = some (lo', hi', l')) : Within t 34 lo hi lo' hi' l l' := by
  unfold Rw.pce at h1 h2
  rw [show Rw.brk 34 = none by decide] at h1 h2
  simp only [show ¬ (1 < 1) by decide, if_false, if_true] at h1 h2
  cases ha : Rw.qtd t k with
  | none => rw [ha] at h1; cases h1
  | some p =>
    obtain ⟨x, y⟩ := p
    obtain ⟨b1, b2, b3⟩ := Rw.quo_bound _ _ _ _ _ (fun p hp => by cases hp) ha
    have := Rw.en_le t k hk
    rw [ha] at h1 h2
    simp only [Option.map_some, Rw.ins, if_true, Option.some.injEq, Prod.mk.injEq] at h1
    simp only [Option.map_some, Rw.ins, show ¬ ((97 : Int) = 105) by decide, if_false, Option.some.injEq, Prod.mk.injEq] at h2
    obtain ⟨rfl, rfl, rfl⟩ := h1
    obtain ⟨rfl, rfl, rfl⟩ := h2
    exact ⟨by omega, by omega, by omega, rfl, rfl, by omega⟩
theorem within_p {t : List Int} {k : Nat} {lo hi lo' hi' : Int} {l l' : Bool} (hk : k ≤ t.length)
    (h1 : Rw.pce t k 105 112 1 = some (lo, hi, l)) (h2 : Rw.pce t k 97 112 1 = some (lo', hi', l')) : Within t 112 lo hi lo' hi' l l' := by
  unfold Rw.pce at h1 h2
  rw [show Rw.brk 112 = none by decide] at h1 h2
  simp only [show ¬ (1 < 1) by decide, show ¬ ((112 : Int) = 34) by decide, if_false, if_true] at h1 h2
  rw [par_i] at h1
  rw [par_a rfl rfl] at h2
  have a1 := Rw.bup_le t (Rw.bare t k) (t.length + 1) (Rw.beg t k)
  have a2 := Rw.beg_le t k
  have a3 := Rw.en_ge t k
  have a4 := Rw.bdn_ge t (Rw.bare t k) (t.length + 1) (Rw.en t k)
  have a5 := Rw.bdn_le t (Rw.bare t k) (t.length + 1) (Rw.en t k) (Rw.en_le t k hk)
  generalize Rw.bup t (Rw.bare t k) (t.length + 1) (Rw.beg t k) = LO at *
  generalize Rw.bdn t (Rw.bare t k) (t.length + 1) (Rw.en t k) = HI at *
  simp only [Option.map_some, Option.some.injEq, Prod.mk.injEq] at h1
  obtain ⟨rfl, rfl, rfl⟩ := h1
  by_cases c1 : HI < t.length
  · rw [if_pos c1] at h2
    simp only [Option.map_some, Option.some.injEq, Prod.mk.injEq] at h2
    obtain ⟨rfl, rfl, rfl⟩ := h2
    have e1 := Rw.en_ge t (HI + 1)
    have e2 := Rw.en_le t (HI + 1) (by omega)
    have e3 := Rw.bdn_ge t (!(Rw.bare t k)) (t.length + 1) (Rw.en t (HI + 1))
    have e4 := Rw.bdn_le t (!(Rw.bare t k)) (t.length + 1) (Rw.en t (HI + 1)) e2
    exact ⟨by omega, by omega, by omega, rfl, rfl, by omega⟩
  · rw [if_neg c1] at h2
    by_cases c2 : 0 < LO
    · rw [if_pos c2] at h2
      simp only [Option.map_some, Option.some.injEq, Prod.mk.injEq] at h2
      obtain ⟨rfl, rfl, rfl⟩ := h2
      have e1 := Rw.beg_le t (LO - 1)
      have e2 := Rw.bup_le t (!(Rw.bare t k)) (t.length + 1) (Rw.beg t (LO - 1))
      exact ⟨by omega, by omega, by omega, rfl, rfl, by omega⟩
    · rw [if_neg c2] at h2
      cases h2
theorem within_w {t : List Int} {k : Nat} {key lo hi lo' hi' : Int} {l l' : Bool} (hkey : key = 119 ∨ key = 87) (hk : k ≤ t.length)
    (h1 : Rw.pce t k 105 key 1 = some (lo, hi, l)) (h2 : Rw.pce t k 97 key 1 = some (lo', hi', l')) : Within t key lo hi lo' hi' l l' := by
  have h112 : (key == 112) = false := by rcases hkey with rfl | rfl <;> rfl
  have e : ∀ w, Rw.pce t k w key 1 = (Rw.wrd t (key == 87) w k).map fun p => ((p.1 : Int), (p.2 : Int), false) := by
    intro w
    unfold Rw.pce
    rcases hkey with rfl | rfl
    · rw [show Rw.brk 119 = none by decide]; rfl
    · rw [show Rw.brk 87 = none by decide]; rfl
  rw [e] at h1 h2
  generalize (key == 87) = big at *
  clear e
  by_cases hc : t.length ≤ k ∨ t[k]? = some 10
  · rw [wrd_none hc] at h1; cases h1
  · obtain ⟨c1, c2⟩ := not_or.1 hc
    obtain ⟨q, hq⟩ : ∃ q, Rw.cl t big k = q := ⟨_, rfl⟩
    obtain ⟨LO, hLO⟩ : ∃ LO, Rw.rlo t big q k = LO := ⟨_, rfl⟩
    obtain ⟨HI, hHI⟩ : ∃ HI, Rw.rhi t big q (t.length - k) k = HI := ⟨_, rfl⟩
    rw [wrd_some (HI := HI) (by omega) c2 hq hLO hHI, if_pos rfl] at h1
    rw [wrd_some (HI := HI) (by omega) c2 hq hLO hHI, if_neg (by decide)] at h2
    have a1 := Rw.rlo_le t big q k
    have a2 := Rw.rhi_ge t big q (t.length - k) k
    have a3 := Rw.rhi_le t big q (t.length - k) k hk
    rw [hLO] at a1
    rw [hHI] at a2 a3
    simp only [Option.map_some, Option.some.injEq, Prod.mk.injEq] at h1
    obtain ⟨rfl, rfl, rfl⟩ := h1
    have hr : ∀ q', HI ≤ Rw.rhi t big q' (t.length - HI) HI ∧ Rw.rhi t big q' (t.length - HI) HI ≤ t.length := fun q' => ⟨Rw.rhi_ge _ _ _ _ _, Rw.rhi_le _ _ _ _ _ a3⟩
    by_cases d0 : q = 0
    · rw [if_pos d0] at h2
      by_cases d1 : HI = Rw.en t k
      · rw [if_pos d1] at h2; cases h2
      · rw [if_neg d1] at h2
        simp only [Option.map_some, Option.some.injEq, Prod.mk.injEq] at h2
        obtain ⟨rfl, rfl, rfl⟩ := h2
        have := hr (Rw.cl t big HI)
        exact ⟨by omega, by omega, by omega, rfl, h112.symm, by omega⟩
    · rw [if_neg d0] at h2
      by_cases d1 : HI < Rw.en t k ∧ Rw.cl t big HI = 0
      · rw [if_pos d1] at h2
        simp only [Option.map_some, Option.some.injEq, Prod.mk.injEq] at h2
        obtain ⟨rfl, rfl, rfl⟩ := h2
        have := hr 0
        exact ⟨by omega, by omega, by omega, rfl, h112.symm, by omega⟩
      · rw [if_neg d1] at h2
        by_cases d2 : Rw.beg t k < LO ∧ Rw.cl t big (LO - 1) = 0
        · rw [if_pos d2] at h2
          simp only [Option.map_some, Option.some.injEq, Prod.mk.injEq] at h2
          obtain ⟨rfl, rfl, rfl⟩ := h2
          have := Rw.rlo_le t big 0 (LO - 1)
          exact ⟨by omega, by omega, by omega, rfl, h112.symm, by omega⟩
        · rw [if_neg d2] at h2
          simp only [Option.map_some, Option.some.injEq, Prod.mk.injEq] at h2
          obtain ⟨rfl, rfl, rfl⟩ := h2
          exact ⟨by omega, by omega, by omega, rfl, h112.symm, by omega⟩
theorem within_pce {t : List Int} {k : Nat} {key lo hi lo' hi' : Int} {l l' : Bool} (hkey : key ∈ ([119, 87, 34, 40, 91, 123, 112] : List Int)) (hk : k ≤ t.length)
    (h1 : Rw.pce t k 105 key 1 = some (lo, hi, l)) (h2 : Rw.pce t k 97 key 1 = some (lo', hi', l')) : Within t key lo hi lo' hi' l l' := by
  simp only [List.mem_cons, List.not_mem_nil, or_false] at hkey
  rcases hkey with rfl | rfl | rfl | rfl | rfl | rfl | rfl
  · exact within_w (.inl rfl) hk h1 h2
  · exact within_w (.inr rfl) hk h1 h2
  · exact within_q hk h1 h2
  · exact within_br hk (.inl rfl) (by decide) rfl h1 h2
  · exact within_br hk (.inr (.inl rfl)) (by decide) rfl h1 h2
  · exact within_br hk (.inr (.inr rfl)) (by decide) rfl h1 h2
  · exact within_p hk h1 h2
theorem told_zero {s : ByteArray} {x wide key a b : Int} {l : Bool} (h : ToldO s x wide key 1 a b l 0) : GoodP s x ∧ Rw.pce (rs s) x.toNat wide key 1 = some (a, b, l) := by
  by_cases hg : GoodO s x wide key 1
  · have h1 := h.1 hg
    refine ⟨hg.1, ?_⟩
    have e : (1 : Int).toNat = 1 := rfl
    rw [e] at h1
    cases hp : Rw.pce (rs s) x.toNat wide key 1 with
    | none => rw [hp] at h1; simp [ansR] at h1
    | some p =>
      rw [hp] at h1
      obtain ⟨p1, p2, p3⟩ := p
      simp [ansR] at h1
      obtain ⟨rfl, rfl, rfl⟩ := h1
      rfl
  · have := (h.2 hg).2.2.2
    cases this
end Go.Proofs.YtohmhjeimeilcaaDoor
