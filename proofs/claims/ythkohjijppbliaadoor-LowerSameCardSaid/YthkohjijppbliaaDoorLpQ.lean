/-
  LOWER: what one lowers another one takes: plain.
-/
import Derived.Test.YthkohjijppbliaaDoorLpR
set_option linter.unusedVariables false
namespace Go.Proofs.YthkohjijppbliaaDoor
open Go Go.RowKit

theorem pok_runes {s PX : ByteArray} {a d : Int} (h : POk s PX a d) : ∀ r ∈ rs PX, Cd.ruOk r := by
  intro r hr
  have hv : Utf8.valid r = true := Utf.valid_runes h.val r hr
  have h0 : (0 : Int) ∉ rs PX := by
    intro hm
    have hb : (0 : UInt8) ∈ Utf.bytes (rs PX) := bytes_has0 _ hm
    rw [← txt_list, valid_rs h.val] at hb
    have h7 := h.nz
    rw [List.contains_iff_mem.2 hb] at h7
    cases h7
  have hne : r ≠ 0 := fun e => h0 (e ▸ hr)
  unfold Utf8.valid at hv
  simp at hv
  exact ⟨by omega, by omega, by omega⟩
theorem killD_els {L D : List ElemS} (h : elsOk L) : elsOk (killD L D) := by
  refine ⟨by rw [killD_len]; exact h.1, fun e he => ?_, ?_⟩
  · obtain ⟨q, hq, rfl⟩ := List.mem_map.1 he
    have := h.2.1 q hq
    split
    · exact this
    · exact this
  · unfold killD
    rw [List.pairwise_map]
    refine h.2.2.imp fun {x y} hxy => ?_
    intro hs
    apply hxy
    have e1 : ∀ z : ElemS, (if D.any (fun q => decide (sameId z q)) = true then { z with d := true } else z).t = z.t ∧ (if D.any (fun q => decide (sameId z q)) = true then { z with d := true } else z).si = z.si := fun z => by split <;> exact ⟨rfl, rfl⟩
    exact ⟨by have h1 := hs.1; rw [(e1 x).1, (e1 y).1] at h1; exact h1, by have h1 := hs.2; rw [(e1 x).2, (e1 y).2] at h1; exact h1⟩
theorem killD_mem {L D : List ElemS} {e : ElemS} (h : e ∈ killD L D) : ∃ q ∈ L, q.t = e.t ∧ q.si = e.si := by
  obtain ⟨q, hq, rfl⟩ := List.mem_map.1 h
  refine ⟨q, hq, ?_⟩
  split <;> exact ⟨rfl, rfl⟩
theorem killD_at {L D : List ElemS} {i : Nat} {e : ElemS} (h : (killD L D)[i]? = some e) : ∃ q, L[i]? = some q ∧ q.t = e.t ∧ q.si = e.si ∧ q.r = e.r := by
  cases hx : L[i]? with
  | none =>
    have h1 := List.getElem?_eq_none_iff.1 hx
    rw [List.getElem?_eq_none (by rw [killD_len]; exact h1)] at h
    cases h
  | some q =>
    rw [killD_get hx] at h
    injection h with h
    subst h
    refine ⟨q, rfl, ?_⟩
    split <;> exact ⟨rfl, rfl, rfl⟩
theorem idx_unique {L : List ElemS} (hp : L.Pairwise (fun a b => ¬ sameId a b)) {i j : Nat} {a b : ElemS} (ha : L[i]? = some a) (hb : L[j]? = some b) (h : sameId a b) : i = j := by
  have h1 := idxE_hit hp ha ⟨rfl, rfl⟩
  have h2 := idxE_hit hp hb ⟨rfl, rfl⟩
  rw [h.1, h.2] at h1
  rw [h1] at h2
  exact Int.ofNat_inj.1 h2
/-- One deletion. -/
theorem del_step {L D : List ElemS} (h : elsOk L) {o : Cd.OpP} {e : ElemS} (he : e ∈ L) (hk : o.kd = 2) (ht : o.t = e.t) (hs : o.si = e.si) :
    CanDo (killD L D) o ∧ ∀ L', DoP (killD L D) o L' → L' = killD L (D ++ [e]) := by
  obtain ⟨i, hi⟩ := List.getElem?_of_mem he
  have hk2 := killD_els (D := D) h
  have hg := killD_get (D := D) hi
  have hidx : idxE (killD L D) o.t o.si = (i : Nat) := idxE_hit hk2.2.2 hg (by rw [ht, hs]; split <;> exact ⟨rfl, rfl⟩)
  refine ⟨.inl ⟨hk, by omega⟩, fun L' hL => ?_⟩
  rcases hL with ⟨_, j, q, hq, hqt, hqs, rfl⟩ | ⟨h1, _⟩
  · have hidx2 : idxE (killD L D) o.t o.si = (j : Nat) := idxE_hit hk2.2.2 hq ⟨hqt, hqs⟩
    have hij : j = i := by omega
    subst hij
    rw [hg] at hq
    injection hq with hq
    have e1 : ({ q with d := true } : ElemS) = { e with d := true } := by
      rw [← hq]
      split <;> rfl
    rw [e1]
    exact killD_snoc h.2.2 hi
  · omega
theorem comes_at {st clk : Int} {R : List Int} {j : Nat} {r : Int} (h : R[j]? = some r) : (comes st clk R)[j]? = some ⟨clk + (j : Int) + 1, st, r, false⟩ := by
  unfold comes
  rw [List.getElem?_map, List.getElem?_zipIdx, h]
  simp
theorem comes_pw (st clk : Int) (R : List Int) : (comes st clk R).Pairwise (fun a b => ¬ sameId a b) := by
  rw [List.pairwise_iff_getElem]
  intro i j hi hj hij hs
  rw [comes_len] at hi hj
  have h1 := comes_at (st := st) (clk := clk) (List.getElem?_eq_getElem hi)
  have h2 := comes_at (st := st) (clk := clk) (List.getElem?_eq_getElem hj)
  rw [List.getElem?_eq_getElem (by rw [comes_len]; exact hi)] at h1
  rw [List.getElem?_eq_getElem (by rw [comes_len]; exact hj)] at h2
  injection h1 with h1
  injection h2 with h2
  rw [h1, h2] at hs
  have := hs.1
  simp only at this
  omega
/-- What stands there behind so many insertions. -/
def docI (L1 : List ElemS) (p : Nat) (st clk : Int) (R : List Int) : List ElemS := L1.take p ++ comes st clk R ++ L1.drop p
theorem docI_mem {L1 : List ElemS} {p : Nat} {st clk : Int} {R : List Int} {e : ElemS} (h : e ∈ docI L1 p st clk R) : e ∈ L1 ∨ e ∈ comes st clk R := by
  unfold docI at h
  rcases List.mem_append.1 h with h | h
  · rcases List.mem_append.1 h with h | h
    · exact .inl (List.mem_of_mem_take h)
    · exact .inr h
  · exact .inl (List.mem_of_mem_drop h)
theorem docI_els {L1 : List ElemS} {p : Nat} {st clk : Int} {R : List Int} (h : elsOk L1) (htm : ∀ e ∈ L1, e.t ≤ clk) (hc : 0 ≤ clk) (hn : L1.length + R.length ≤ 2000) (hck : clk + R.length ≤ 10000) (hst : 1 ≤ st ∧ st ≤ 4) (hR : ∀ r ∈ R, Cd.ruOk r) : elsOk (docI L1 p st clk R) := by
  have hpw := h.2.2
  rw [← List.take_append_drop p L1, List.pairwise_append] at hpw
  obtain ⟨pa, pb, pc⟩ := hpw
  have hcm : ∀ e ∈ comes st clk R, clk < e.t ∧ e.t ≤ clk + R.length ∧ e.si = st ∧ Cd.ruOk e.r := fun e he => by
    obtain ⟨j, r, hj, rfl⟩ := comes_mem he
    have h1 := (List.getElem?_eq_some_iff.1 hj).1
    exact ⟨by simp only; omega, by simp only; omega, rfl, hR r (List.mem_of_getElem? hj)⟩
  refine ⟨?_, fun e he => ?_, ?_⟩
  · unfold docI
    have e1 : (L1.take p).length + (L1.drop p).length = L1.length := by rw [← List.length_append, List.take_append_drop]
    rw [List.length_append, List.length_append, comes_len]
    omega
  · rcases docI_mem he with h1 | h1
    · exact h.2.1 e h1
    · obtain ⟨q1, q2, q3, q4⟩ := hcm e h1
      exact ⟨⟨⟨by omega, by omega⟩, by omega, by omega⟩, q4⟩
  · unfold docI
    rw [List.append_assoc, List.pairwise_append, List.pairwise_append]
    refine ⟨pa, ⟨comes_pw st clk R, pb, fun x hx y hy hs => ?_⟩, fun x hx y hy hs => ?_⟩
    · have h1 := (hcm x hx).1
      have h2 := htm y (List.mem_of_mem_drop hy)
      have h3 := hs.1
      omega
    · rcases List.mem_append.1 hy with hy | hy
      · have h1 := (hcm y hy).1
        have h2 := htm x (List.mem_of_mem_take hx)
        have h3 := hs.1
        omega
      · exact pc x hx y hy hs
/-- One insertion: it stands behind its After at once. -/
theorem ins_step {L1 : List ElemS} {p : Nat} {st clk t0 s0 : Int} {R : List Int} {j : Nat} {r : Int} (h : elsOk (docI L1 p st clk (R.take j))) (htm : ∀ e ∈ L1, 1 ≤ e.t ∧ e.t ≤ clk) (hc : 0 ≤ clk) (hp : p ≤ L1.length) (hj : R[j]? = some r) (hn : L1.length + R.length ≤ 2000)
    (hid : p = 0 ∧ t0 = 0 ∧ s0 = 0 ∨ ∃ e, L1[p - 1]? = some e ∧ e.t = t0 ∧ e.si = s0 ∧ 0 < p) {o : Cd.OpP} (hk : o.kd = 1) (ht : o.t = clk + (j : Int) + 1) (hs : o.si = st) (hr : o.rn = r) (ht0 : o.t0 = if j = 0 then t0 else clk + (j : Int)) (hs0 : o.s0 = if j = 0 then s0 else st) :
    CanDo (docI L1 p st clk (R.take j)) o ∧ ∀ L', DoP (docI L1 p st clk (R.take j)) o L' → L' = docI L1 p st clk (R.take (j + 1)) := by
  have hjl := (List.getElem?_eq_some_iff.1 hj).1
  have hlt : (R.take j).length = j := by rw [List.length_take]; omega
  have htms : ∀ e ∈ docI L1 p st clk (R.take j), 1 ≤ e.t ∧ e.t ≤ clk + (j : Int) := fun e he => by
    rcases docI_mem he with h1 | h1
    · have := htm e h1
      omega
    · obtain ⟨q, x, hq, rfl⟩ := comes_mem h1
      have h2 := (List.getElem?_eq_some_iff.1 hq).1
      rw [hlt] at h2
      simp only
      omega
  have hpre : (L1.take p ++ comes st clk (R.take j)).length = p + j := by rw [List.length_append, comes_len, hlt, List.length_take]; omega
  have hlen : (docI L1 p st clk (R.take j)).length = L1.length + j := by
    unfold docI
    rw [List.length_append, hpre, List.length_drop]
    omega
  have hneg : idxE (docI L1 p st clk (R.take j)) o.t o.si < 0 := by
    rw [idxE_miss (fun e he hh => by have := (htms e he).2; rw [hh.1, ht] at this; omega)]
    decide
  have hidx : idxE (docI L1 p st clk (R.take j)) o.t0 o.s0 + 1 = ((p + j : Nat) : Int) := by
    by_cases hj0 : j = 0
    · subst hj0
      rw [if_pos rfl] at ht0 hs0
      rcases hid with ⟨h1, h2, h3⟩ | ⟨e, h1, h2, h3, h4⟩
      · rw [idxE_miss (fun e he hh => by have := (htms e he).1; rw [hh.1, ht0, h2] at this; omega), h1]
        rfl
      · have hg : (docI L1 p st clk (R.take 0))[p - 1]? = some e := by
          unfold docI
          rw [List.append_assoc, List.getElem?_append_left (by rw [List.length_take]; omega), List.getElem?_take, if_pos (by omega)]
          exact h1
        rw [idxE_hit h.2.2 hg ⟨by rw [ht0, h2], by rw [hs0, h3]⟩]
        omega
    · rw [if_neg hj0] at ht0 hs0
      obtain ⟨x, hx⟩ : ∃ x, (R.take j)[j - 1]? = some x := ⟨_, List.getElem?_eq_getElem (by omega)⟩
      have hg : (docI L1 p st clk (R.take j))[p + (j - 1)]? = some ⟨clk + ((j - 1 : Nat) : Int) + 1, st, x, false⟩ := by
        unfold docI
        rw [List.append_assoc, List.getElem?_append_right (by rw [List.length_take]; omega), List.length_take, List.getElem?_append_left (by rw [comes_len, hlt]; omega), show p + (j - 1) - min p L1.length = j - 1 by omega]
        exact comes_at hx
      rw [idxE_hit h.2.2 hg ⟨by rw [ht0]; simp only; omega, by rw [hs0]⟩]
      omega
  refine ⟨.inr ⟨hk, hneg, ?_, by rw [hlen]; omega⟩, fun L' hL => ?_⟩
  · by_cases h0 : p + j = 0
    · right
      have hj0 : j = 0 := by omega
      have hp0 : p = 0 := by omega
      subst hj0
      rw [if_pos rfl] at ht0 hs0
      rcases hid with ⟨h1, h2, h3⟩ | ⟨e, h1, h2, h3, h4⟩
      · exact ⟨by rw [ht0, h2], by rw [hs0, h3]⟩
      · omega
    · left
      omega
  · rcases hL with ⟨h1, _⟩ | ⟨_, i, q, hi, hst, rfl⟩
    · omega
    · rw [hidx] at hi
      have hip : i = p + j := by omega
      subst hip
      have hq : q = p + j := by
        by_cases hqi : p + j < q
        · exfalso
          obtain ⟨e, he⟩ : ∃ e, (docI L1 p st clk (R.take j))[p + j]? = some e := ⟨_, List.getElem?_eq_getElem (by have := hst.hi; omega)⟩
          have h1 := hst.les (p + j) e (Nat.le_refl _) hqi he
          have h2 := (htms e (List.mem_of_getElem? he)).2
          rw [ht] at h1
          rcases h1 with h1 | ⟨h1, _⟩ <;> omega
        · have := hst.lo
          omega
      subst hq
      unfold insE docI
      rw [← hpre, List.take_left, List.drop_left, comes_take hj, ht, hs, hr]
      simp
end Go.Proofs.YthkohjijppbliaaDoor
