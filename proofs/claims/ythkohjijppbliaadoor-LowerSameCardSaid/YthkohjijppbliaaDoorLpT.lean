/-
  LOWER: what Down's ops do elsewhere, op by op: plain.
-/
import Derived.Test.YthkohjijppbliaaDoorLpQ
set_option linter.unusedVariables false
namespace Go.Proofs.YthkohjijppbliaaDoor
open Go Go.RowKit

/-- Where a patch fits, and there is room for it. -/
structure Fits (x : SiteP) (a d : Nat) (R : List Int) : Prop where
  ok : SOk x
  rm : Room x d R.length
  ad : a + d ≤ (txL x.L).length
  ru : ∀ r ∈ R, Cd.ruOk r
theorem fits_of {x : SiteP} {a d : Nat} {R : List Int} (h : SOk x) (hr : Room x d R.length) (hR : Vld R) (hp : POk (runesBytes (txL x.L)) (runesBytes R) a d) : Fits x a d R := by
  have h1 := pok_runes hp
  rw [rs_txt hR] at h1
  have h2 := hp.dn
  rw [rs_txt (txL_vld h.els)] at h2
  exact ⟨h, hr, by omega, h1⟩
def dnD (x : SiteP) (a d : Nat) : List ElemS := dels (x.L.drop (dnLow x.L a)) d
theorem Fits.spot {x : SiteP} {a d : Nat} {R : List Int} (h : Fits x a d R) : dnP x.L a ≤ dnLow x.L a ∧ dnLow x.L a ≤ x.L.length ∧ txL (x.L.take (dnP x.L a)) = (txL x.L).take a ∧ txL (x.L.take (dnLow x.L a)) = (txL x.L).take a ∧ txL (x.L.drop (dnLow x.L a)) = (txL x.L).drop a ∧ (dnP x.L a = 0 ∧ dnId x.L a = (0, 0) ∨ ∃ e, x.L[dnP x.L a - 1]? = some e ∧ e.t = (dnId x.L a).1 ∧ e.si = (dnId x.L a).2 ∧ 0 < dnP x.L a) := by
  have had := h.ad
  obtain ⟨p, low, h1, h2, h3, h4, h5, h6, h7⟩ := spotL_spec x.L a (by omega)
  have ep : dnP x.L a = p := by
    unfold dnP
    rw [h1]
    simp only
    omega
  have el : dnLow x.L a = low := by
    unfold dnLow
    rw [h1]
  refine ⟨by omega, by omega, by rw [ep]; exact h4, by rw [el]; exact h5, by rw [el]; exact h6, ?_⟩
  unfold dnId
  rw [ep]
  rcases h7 with h7 | ⟨e, h7, _, h8⟩
  · exact .inl ⟨h7, if_pos h7⟩
  · refine .inr ⟨e, h7, ?_, ?_, h8⟩
    · rw [if_neg (by omega), h7]
    · rw [if_neg (by omega), h7]
theorem Fits.dlen {x : SiteP} {a d : Nat} {R : List Int} (h : Fits x a d R) : (dnD x a d).length = d := by
  obtain ⟨_, _, _, _, h5, _⟩ := h.spot
  have had := h.ad
  exact dels_len _ _ (by rw [h5, List.length_drop]; omega)
theorem dnD_mem {x : SiteP} {a d : Nat} {e : ElemS} (h : e ∈ dnD x a d) : e ∈ x.L := List.mem_of_mem_drop (dels_mem _ _ _ h).1
theorem Fits.l1 {x : SiteP} {a d : Nat} {R : List Int} (h : Fits x a d R) : dnL1 x.L a d = killD x.L (dnD x a d) := by
  have h1 := kill_killD (x.L.drop (dnLow x.L a)) d (x.L.take (dnLow x.L a)) (by rw [List.take_append_drop]; exact h.ok.els.2.2)
  rw [List.take_append_drop] at h1
  exact h1
/-- The document behind so many of the ops. -/
def docAt (x : SiteP) (a d : Nat) (R : List Int) (k : Nat) : List ElemS := if k ≤ d then killD x.L ((dnD x a d).take k) else docI (dnL1 x.L a d) (dnP x.L a) x.st (x.ck + (d : Int)) (R.take (k - d))
theorem docI_nil (L1 : List ElemS) (p : Nat) (st clk : Int) : docI L1 p st clk [] = L1 := by
  unfold docI
  show L1.take p ++ [] ++ L1.drop p = L1
  rw [List.append_nil, List.take_append_drop]
theorem docAt_zero (x : SiteP) (a d : Nat) (R : List Int) : docAt x a d R 0 = x.L := by
  unfold docAt
  rw [if_pos (Nat.zero_le _), List.take_zero, killD_nil]
theorem docAt_ins {x : SiteP} {a d : Nat} {R : List Int} (h : Fits x a d R) {k : Nat} (hk : d ≤ k) : docAt x a d R k = docI (dnL1 x.L a d) (dnP x.L a) x.st (x.ck + (d : Int)) (R.take (k - d)) := by
  unfold docAt
  by_cases e : k ≤ d
  · have : k = d := by omega
    subst this
    rw [if_pos (Nat.le_refl _), Nat.sub_self, List.take_zero, docI_nil, h.l1, List.take_of_length_le (by rw [h.dlen]; omega)]
  · rw [if_neg e]
theorem docAt_all {x : SiteP} {a d : Nat} {R : List Int} (h : Fits x a d R) : docAt x a d R (d + R.length) = dnDoc x a d R := by
  rw [docAt_ins h (by omega), show d + R.length - d = R.length by omega, List.take_length]
  rfl
theorem dnL1_tms {x : SiteP} {a d : Nat} {R : List Int} (h : Fits x a d R) : ∀ e ∈ dnL1 x.L a d, 1 ≤ e.t ∧ e.t ≤ x.ck + (d : Int) := by
  intro e he
  rw [h.l1] at he
  obtain ⟨q, hq, h1, _⟩ := killD_mem he
  have h2 := h.ok.tms q hq
  have h3 := (h.ok.els.2.1 q hq).1.1
  omega
theorem docAt_els {x : SiteP} {a d : Nat} {R : List Int} (h : Fits x a d R) {k : Nat} (hk : k ≤ d + R.length) : elsOk (docAt x a d R k) := by
  by_cases e : k ≤ d
  · unfold docAt
    rw [if_pos e]
    exact killD_els h.ok.els
  · rw [docAt_ins h (by omega)]
    have hl : (R.take (k - d)).length = k - d := by rw [List.length_take]; omega
    have hd := h.rm.doc
    have hc := h.rm.ck
    have hc0 := h.ok.ck.1
    refine docI_els (by rw [h.l1]; exact killD_els h.ok.els) (fun e he => (dnL1_tms h e he).2) (by omega) ?_ ?_ h.ok.st (fun r hr => h.ru r (List.mem_of_mem_take hr))
    · rw [h.l1, killD_len, hl]; omega
    · rw [hl]; omega
theorem delOps_at {st : Int} {seen : List Int} {D : List ElemS} {k : Nat} {e : ElemS} (h : D[k]? = some e) : (delOps st seen D)[k]? = some (delOp st seen k e) := by
  unfold delOps
  rw [List.getElem?_map, List.getElem?_zipIdx, h]
  simp
theorem insOps_at {st clk : Int} {seen : List Int} {t0 s0 : Int} {m : Nat} {R : List Int} {j : Nat} {r : Int} (h : R[j]? = some r) : (insOps st clk seen t0 s0 m R)[j]? = some (insOp st clk seen t0 s0 m j r) := by
  unfold insOps
  rw [List.getElem?_map, List.getElem?_zipIdx, h]
  simp
theorem dnOps_len {x : SiteP} {a d : Nat} {R : List Int} (h : Fits x a d R) : (dnOps x a d R).length = d + R.length := by
  unfold dnOps
  rw [List.length_append, insOps_len, delOps_len]
  rw [show (dels (x.L.drop (dnLow x.L a)) d).length = d from h.dlen]
/-- What an op is. -/
theorem dnOps_at {x : SiteP} {a d : Nat} {R : List Int} (h : Fits x a d R) {k : Nat} {o : Cd.OpP} (ho : (dnOps x a d R)[k]? = some o) :
    (k < d ∧ ∃ e, (dnD x a d)[k]? = some e ∧ o = delOp x.st x.seen k e) ∨ (d ≤ k ∧ ∃ r, R[k - d]? = some r ∧ o = insOp x.st (x.ck + (d : Int)) (seenAt x.seen (dnK x.st) d) (dnId x.L a).1 (dnId x.L a).2 0 (k - d) r) := by
  have hl := (List.getElem?_eq_some_iff.1 ho).1
  rw [dnOps_len h] at hl
  have hdl : (delOps x.st x.seen (dels (x.L.drop (dnLow x.L a)) d)).length = d := by rw [delOps_len]; exact h.dlen
  unfold dnOps at ho
  by_cases e : k < d
  · left
    rw [List.getElem?_append_left (by omega)] at ho
    have hd := List.getElem?_eq_getElem (l := dnD x a d) (i := k) (by rw [h.dlen]; exact e)
    refine ⟨e, _, hd, ?_⟩
    exact Option.some.inj (ho.symm.trans (delOps_at hd))
  · right
    rw [List.getElem?_append_right (by omega), hdl] at ho
    have hd := List.getElem?_eq_getElem (l := R) (i := k - d) (by omega)
    refine ⟨by omega, _, hd, ?_⟩
    exact Option.some.inj (ho.symm.trans (insOps_at hd))
theorem dnOps_ok {x : SiteP} {a d : Nat} {R : List Int} (h : Fits x a d R) {k : Nat} {o : Cd.OpP} (ho : (dnOps x a d R)[k]? = some o) : Cd.opOk o := by
  have hl := (List.getElem?_eq_some_iff.1 ho).1
  rw [dnOps_len h] at hl
  have hst := h.ok.st
  have hck := h.ok.ck
  have hrc := h.rm.ck
  have hrs := h.rm.seen
  have hk4 : (x.st - 1).toNat < x.seen.length := by have := h.ok.seen.1; omega
  obtain ⟨y, hy⟩ : ∃ y, x.seen[(x.st - 1).toNat]? = some y := ⟨_, List.getElem?_eq_getElem hk4⟩
  have hgd : x.seen.getD (x.st - 1).toNat 0 = y := by rw [List.getD_eq_getElem?_getD, hy]; rfl
  have hy0 := h.ok.seen.2 y (List.mem_of_getElem? hy)
  rw [hgd] at hrs
  rcases dnOps_at h ho with ⟨hk, e, he, rfl⟩ | ⟨hk, r, hr, rfl⟩
  · have heo := (h.ok.els.2.1 e (dnD_mem (List.mem_of_getElem? he))).1
    obtain ⟨s1, s2, s3, s4⟩ := seenAt_ok (j := k) h.ok.seen hy (by omega)
    refine ⟨heo, hst, ?_, s4, .inr ⟨rfl, rfl, rfl, rfl⟩⟩
    unfold delOp
    simp only [hgd]
    omega
  · obtain ⟨s1, s2, s3, s4⟩ := seenAt_ok (j := d) h.ok.seen hy (by omega)
    obtain ⟨q1, q2, q3, q4⟩ := seenAt_ok (j := 0 + (k - d)) s4 s3 (by omega)
    have hgd2 : (seenAt x.seen (x.st - 1).toNat d).getD (x.st - 1).toNat 0 = y + (d : Int) := by rw [List.getD_eq_getElem?_getD, s3]; rfl
    refine ⟨⟨?_, ?_⟩, hst, ?_, q4, .inl ⟨rfl, h.ru r (List.mem_of_getElem? hr), ?_⟩⟩
    · unfold insOp
      simp only
      omega
    · unfold insOp
      simp only
      omega
    · unfold insOp dnK
      simp only [hgd2]
      omega
    · unfold insOp
      simp only
      by_cases hj : k - d = 0
      · rw [if_pos hj, if_pos hj]
        obtain ⟨_, _, _, _, _, h6⟩ := h.spot
        rcases h6 with ⟨_, h6⟩ | ⟨e, h6, h7, h8, _⟩
        · left
          rw [h6]
          exact ⟨rfl, rfl⟩
        · right
          have heo := (h.ok.els.2.1 e (List.mem_of_getElem? h6)).1
          have het := h.ok.tms e (List.mem_of_getElem? h6)
          rw [← h7, ← h8]
          exact ⟨heo, .inl (by omega)⟩
      · rw [if_neg hj, if_neg hj]
        right
        exact ⟨⟨⟨by omega, by omega⟩, by omega, by omega⟩, .inl (by omega)⟩
/-- One op further. -/
theorem step_at {x : SiteP} {a d : Nat} {R : List Int} (h : Fits x a d R) {k : Nat} {o : Cd.OpP} (ho : (dnOps x a d R)[k]? = some o) :
    CanDo (docAt x a d R k) o ∧ ∀ L', DoP (docAt x a d R k) o L' → L' = docAt x a d R (k + 1) := by
  have hl := (List.getElem?_eq_some_iff.1 ho).1
  rw [dnOps_len h] at hl
  rcases dnOps_at h ho with ⟨hk, e, he, rfl⟩ | ⟨hk, r, hr, rfl⟩
  · have e1 : docAt x a d R k = killD x.L ((dnD x a d).take k) := by unfold docAt; rw [if_pos (by omega)]
    have e2 : docAt x a d R (k + 1) = killD x.L ((dnD x a d).take k ++ [e]) := by unfold docAt; rw [if_pos (by omega), take_snoc he]
    rw [e1, e2]
    exact del_step h.ok.els (dnD_mem (List.mem_of_getElem? he)) rfl rfl rfl
  · have hel := docAt_els h (k := k) (by omega)
    rw [docAt_ins h hk] at hel ⊢
    rw [docAt_ins h (k := k + 1) (by omega), show k + 1 - d = (k - d) + 1 by omega]
    have hll : (dnL1 x.L a d).length = x.L.length := by rw [h.l1, killD_len]
    have hd := h.rm.doc
    have hc0 := h.ok.ck.1
    obtain ⟨h1, h2, _, _, _, h6⟩ := h.spot
    refine ins_step (t0 := (dnId x.L a).1) (s0 := (dnId x.L a).2) hel (dnL1_tms h) (by omega) (by omega) hr (by omega) ?_ rfl rfl rfl rfl rfl rfl
    rcases h6 with ⟨h6, h7⟩ | ⟨e, h6, h7, h8, h9⟩
    · left
      rw [h7]
      exact ⟨h6, rfl, rfl⟩
    · right
      refine ⟨_, by rw [h.l1]; exact killD_get h6, ?_, ?_, h9⟩
      · split <;> exact h7
      · split <;> exact h8
/-- The text then. -/
theorem dnDoc_text {x : SiteP} {a d : Nat} {R : List Int} (h : Fits x a d R) : txL (dnDoc x a d R) = (txL x.L).take a ++ R ++ (txL x.L).drop (a + d) := by
  obtain ⟨h1, h2, h3, h4, h5, _⟩ := h.spot
  unfold dnDoc dnL1
  have hl : (x.L.take (dnLow x.L a)).length = dnLow x.L a := by rw [List.length_take]; omega
  rw [List.take_append_of_le_length (by omega), List.take_take, Nat.min_eq_left h1, List.drop_append_of_le_length (by omega), txL_app, txL_app, txL_app, comes_text, h3, kill_text, h5, List.drop_drop]
  have e1 : txL ((x.L.take (dnLow x.L a)).drop (dnP x.L a)) = [] := by
    have e2 : txL (x.L.take (dnLow x.L a)) = txL ((x.L.take (dnLow x.L a)).take (dnP x.L a)) ++ txL ((x.L.take (dnLow x.L a)).drop (dnP x.L a)) := by rw [← txL_app, List.take_append_drop]
    rw [List.take_take, Nat.min_eq_left h1, h3, h4] at e2
    exact (List.append_cancel_left ((List.append_nil _).trans e2)).symm
  rw [e1, List.nil_append]
theorem doP_tms {L L' : List ElemS} {o : Cd.OpP} {c : Int} (h : DoP L o L') (ht : ∀ e ∈ L, e.t ≤ c) : ∀ e ∈ L', e.t ≤ max c o.t := by
  intro e he
  rcases h with ⟨_, i, q, hq, _, _, rfl⟩ | ⟨_, i, j, _, _, rfl⟩
  · rcases List.mem_or_eq_of_mem_set he with h1 | rfl
    · have := ht e h1; omega
    · have := ht q (List.mem_of_getElem? hq)
      simp only
      omega
  · unfold insE at he
    rcases List.mem_append.1 he with h1 | h1
    · rcases List.mem_append.1 h1 with h1 | h1
      · have := ht e (List.mem_of_mem_take h1); omega
      · rw [List.mem_singleton.1 h1]
        simp only
        omega
    · have := ht e (List.mem_of_mem_drop h1); omega
/-- A site that has taken an op is one that may be. -/
theorem upr_ok {p q : SiteP} {o : Cd.OpP} (h : SOk p) (ho : Cd.opOk o) (hr : UpR p o q) (hel : elsOk q.L) (hll : p.ll.length < 8000) : SOk q := by
  obtain ⟨⟨ht, _⟩, hst, hnn, hvo, _⟩ := ho
  have hck := h.ck
  refine ⟨by rw [hr.st]; exact h.st, by rw [hr.ck]; omega, hel, ?_, ?_, by rw [hr.wl]; exact h.wl, ?_⟩
  · rw [hr.ck]
    exact doP_tms hr.doc h.tms
  · rw [hr.seen]
    refine ⟨by rw [List.length_set]; exact h.seen.1, fun z hz => ?_⟩
    rcases List.mem_or_eq_of_mem_set hz with h1 | rfl
    · exact h.seen.2 z h1
    · omega
  · rw [hr.ll]
    refine ⟨by rw [List.length_append]; simp only [List.length_singleton]; omega, fun z hz => ?_⟩
    rcases List.mem_append.1 hz with h1 | h1
    · exact h.ll.2 z h1
    · rw [List.mem_singleton.1 h1]
      exact ⟨⟨ht, by omega⟩, hst, hnn, hvo, by assumption⟩
end Go.Proofs.YthkohjijppbliaaDoor
