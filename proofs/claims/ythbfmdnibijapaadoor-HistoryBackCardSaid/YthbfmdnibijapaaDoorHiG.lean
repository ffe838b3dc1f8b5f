/-
  HISTORY: a row of texts, one behind another: committed, gone back, gone on.
-/
import Derived.Test.YthbfmdnibijapaaDoorHiF
set_option linter.unusedVariables false
namespace Go.Proofs.YthbfmdnibijapaaDoor
open Go Go.RowKit

theorem Inv.snocA {L : List NodeS} {c : Nat} {S : List ByteArray} {s : ByteArray} {a : Int} (h : Inv L c S) (ha : 0 ≤ a ∧ a ≤ 4000) (hs : mayB s = true) (hl : L.length ≤ 60) : Inv (L ++ [(⟨(L.length : Int), c, a, s⟩ : NodeS)]) L.length (S ++ [s]) := by
  obtain ⟨l, hla, hlq⟩ := h.last
  have hok : ∀ i e, (L ++ [(⟨(L.length : Int), c, a, s⟩ : NodeS)])[i]? = some e → OkN ((L ++ [(⟨(L.length : Int), c, a, s⟩ : NodeS)]).take i) e := by
    intro i e he
    by_cases hi : i < L.length
    · rw [List.getElem?_append_left hi] at he
      rw [List.take_append_of_le_length (by omega)]
      exact h.may.ok i e he
    · have hi2 : i = L.length := by
        have : i < (L ++ [(⟨(L.length : Int), c, a, s⟩ : NodeS)]).length := by
          rcases Nat.lt_or_ge i (L ++ [(⟨(L.length : Int), c, a, s⟩ : NodeS)]).length with h' | h'
          · exact h'
          · rw [List.getElem?_eq_none h'] at he; cases he
        simp at this
        omega
      subst hi2
      rw [List.getElem?_append_right (Nat.le_refl _), Nat.sub_self] at he
      injection he with he
      subst he
      rw [List.take_append_of_le_length (Nat.le_refl _), List.take_length]
      have hml := h.may.le
      have hpl : Pl L ⟨(L.length : Int), c, a, s⟩ := (pl_some hla).2 ⟨(show l.sq < (L.length : Int) by omega), (show (L.length : Int) ≤ 1073741824 by omega), h.may.cu⟩
      exact ⟨hpl, ha.1, ha.2, hs⟩
  have hsq : ∀ (k : Nat) (e : NodeS), (L ++ [(⟨(L.length : Int), c, a, s⟩ : NodeS)])[k]? = some e → e.sq = (k : Int) := by
    intro k e he
    by_cases hk : k < L.length
    · rw [List.getElem?_append_left hk] at he
      exact h.sq k e he
    · by_cases hk2 : k = L.length
      · subst hk2
        rw [List.getElem?_append_right (Nat.le_refl _), Nat.sub_self] at he
        injection he with he
        subst he
        rfl
      · rw [List.getElem?_eq_none (by simp; omega)] at he
        cases he
  refine ⟨⟨by simp, by simp; omega, hok, ?_⟩, fun k => ?_, hsq, by simp⟩
  · have h0 := idx_hit (ok_srt hok) (m := L.length) (y := ⟨(L.length : Int), c, a, s⟩) (z := (L.length : Int)) (by rw [List.getElem?_append_right (Nat.le_refl _), Nat.sub_self]; rfl) rfl
    rw [h0]
    omega
  · have hSL := h.len
    by_cases hk : k < L.length
    · rw [List.getElem?_append_left hk, List.getElem?_append_left (by omega)]
      exact h.tx k
    · by_cases hk2 : k = L.length
      · subst hk2
        rw [List.getElem?_append_right (Nat.le_refl _), List.getElem?_append_right (by omega), hSL, Nat.sub_self]
        rfl
      · rw [List.getElem?_eq_none (by simp; omega), List.getElem?_eq_none (by simp; omega)]
        rfl
theorem inv_rep {L : List NodeS} {c : Nat} {m : Nat} (h : Inv L c (List.replicate L.length ⟨#[]⟩)) {i : Nat} {e : NodeS} (he : L[i]? = some e) : e.tx = ⟨#[]⟩ := by
  have h1 := h.tx i
  have hi : i < L.length := by
    rcases Nat.lt_or_ge i L.length with h' | h'
    · exact h'
    · rw [List.getElem?_eq_none h'] at he; cases he
  rw [he, List.getElem?_replicate, if_pos hi] at h1
  simpa using h1
/-- A text of the row. -/
def tAt (S : List ByteArray) (i : Nat) : ByteArray := S.getD i ⟨#[]⟩
theorem tAt_may {S : List ByteArray} (h : ∀ s ∈ S, mayB s = true) (i : Nat) : mayB (tAt S i) = true := by
  unfold tAt
  rw [List.getD_eq_getElem?_getD]
  cases e : S[i]? with
  | none => decide
  | some s => exact h s (List.mem_of_getElem? e)
theorem tAt_app {S : List ByteArray} {t : ByteArray} {i : Nat} (h : i < S.length) : tAt (S ++ [t]) i = tAt S i := by
  unfold tAt
  rw [List.getD_eq_getElem?_getD, List.getD_eq_getElem?_getD, List.getElem?_append_left h]
theorem tAt_end {S : List ByteArray} {t : ByteArray} : tAt (S ++ [t]) S.length = t := by
  unfold tAt
  rw [List.getD_eq_getElem?_getD, List.getElem?_append_right (Nat.le_refl _), Nat.sub_self]
  rfl
/-- A link of the row's i-th text to the one behind it. -/
def lnkS (S : List ByteArray) (i : Nat) : Value := lnkV (bt (tAt S i) (tAt S (i + 1))) (bt (tAt S (i + 1)) (tAt S i))
/-- A history of texts in a row. -/
structure Hc (B : Nat) (most : Nat) (hb : Nat) (L : List NodeS) (c : Nat) (S : List ByteArray) (k : Int) (W : World) : Prop where
  q : ∃ ad cp mb kv, Hq most ad L.length cp L c mb hb (tAt S c) k kv W ∧ L.length ≤ cp ∧ B ≤ mb ∧ (∀ i : Nat, i + 1 < L.length → kv.lookup ((i + 1 : Nat) : Int) = some (lnkS S i)) ∧ (∀ i : Nat, L.length ≤ i → kv.lookup ((i : Nat) : Int) = none)
  inv : Inv L c (List.replicate L.length ⟨#[]⟩)
  par : ∀ (i : Nat) (e : NodeS), L[i]? = some e → e.pa = (i : Int) - 1
  sl : S.length = L.length
  may : ∀ s ∈ S, mayB s = true
  lo : B ≤ hb
theorem Hc.kept {B most hb : Nat} {L : List NodeS} {c : Nat} {S : List ByteArray} {k : Int} {W W' : World} (h : Hc B most hb L c S k W) (hk : Kept (fun _ => False) W W') : Hc B most hb L c S k W' := by
  obtain ⟨ad, cp, mb, kv, h1, h2⟩ := h.q
  exact ⟨⟨ad, cp, mb, kv, h1.kept hk, h2⟩, h.inv, h.par, h.sl, h.may, h.lo⟩
theorem Hc.pos {B most hb : Nat} {L : List NodeS} {c : Nat} {S : List ByteArray} {k : Int} {W : World} (h : Hc B most hb L c S k W) : ∃ cp' nv' mb', W.heap[hb]? = some (histO most nv' (c : Int) mb' (tAt S c) k) ∧ cp' = 0 := by
  obtain ⟨ad, cp, mb, kv, h1, h2⟩ := h.q
  exact ⟨0, _, _, h1.box, rfl⟩
theorem hchere_any {B most hb : Nat} {L : List NodeS} {c : Nat} {S : List ByteArray} {k : Int} {W : World} (h : Hc B most hb L c S k W) : Calls Tryd.prog 20 #[.pointer (some ⟨hb, 0, none⟩)] W fun e w' => e = .returned (.string (tAt S c)) ∧ w' = W := by
  obtain ⟨_, nv, mb, h1, _⟩ := h.pos
  exact hhere_any hb mb most c k nv _ W h1
theorem hcpat_any {B most hb : Nat} {L : List NodeS} {c : Nat} {S : List ByteArray} {k : Int} {W : World} (h : Hc B most hb L c S k W) (hk : 0 ≤ k ∧ k ≤ 1000000) : Calls Tryd.prog 22 #[.pointer (some ⟨hb, 0, none⟩)] W fun e w' => e = .returned (.int .i64 k) ∧ w' = W := by
  obtain ⟨_, nv, mb, h1, _⟩ := h.pos
  exact hpatches_any hb mb most c k nv _ W h1 ⟨hk.1, by omega⟩
/-- The ways of the row. -/
def rowG (L : List NodeS) (S : List ByteArray) (z : Int) : Option (Int × PatS × PatS) := if 1 ≤ z ∧ z < (L.length : Int) then some (z - 1, bt (tAt S (z.toNat - 1)) (tAt S (z.toNat - 1 + 1)), bt (tAt S (z.toNat - 1 + 1)) (tAt S (z.toNat - 1))) else none
theorem rowG_at {L : List NodeS} {S : List ByteArray} {i : Nat} (h : i + 1 < L.length) : rowG L S ((i + 1 : Nat) : Int) = some ((i : Int), bt (tAt S i) (tAt S (i + 1)), bt (tAt S (i + 1)) (tAt S i)) := by
  unfold rowG
  rw [if_pos (by omega)]
  have e1 : ((i + 1 : Nat) : Int).toNat - 1 = i := by omega
  rw [e1]
  congr 2
  omega
theorem rowG_good {B most hb : Nat} {L : List NodeS} {c : Nat} {S : List ByteArray} {k : Int} {kv : List (Int × Value)} (hI : Inv L c (List.replicate L.length ⟨#[]⟩)) (hp : ∀ (i : Nat) (e : NodeS), L[i]? = some e → e.pa = (i : Int) - 1) (hkv : ∀ i : Nat, i + 1 < L.length → kv.lookup ((i + 1 : Nat) : Int) = some (lnkS S i)) : Good L kv (rowG L S) := by
  intro z q d u hz
  unfold rowG at hz
  split at hz
  · rename_i h
    obtain ⟨i, hi⟩ : ∃ i : Nat, z = ((i + 1 : Nat) : Int) := ⟨z.toNat - 1, by omega⟩
    subst hi
    have e1 : ((i + 1 : Nat) : Int).toNat - 1 = i := by omega
    rw [e1] at hz
    simp only [Option.some.injEq, Prod.mk.injEq] at hz
    obtain ⟨h1, rfl, rfl⟩ := hz
    have hil : i + 1 < L.length := by omega
    have hml := hI.may.le
    refine ⟨i + 1, L[i + 1], hI.idx hil, List.getElem?_eq_getElem hil, ?_, hkv i hil, WalkArith.wf_i64 (by omega)⟩
    rw [hp (i + 1) _ (List.getElem?_eq_getElem hil), ← h1]
  · cases hz
set_option maxRecDepth 100000 in
set_option maxHeartbeats 4000000 in
theorem hcback_any {B most hb : Nat} {L : List NodeS} {c : Nat} {S : List ByteArray} {k : Int} {W : World} (h : Hc B most hb L (c + 1) S k W) (hk : 0 ≤ k ∧ k ≤ 1000000) :
    Calls Tryd.prog 26 #[.pointer (some ⟨hb, 0, none⟩)] W fun r w' => (∃ at' : Int, r = .returned (.tuple #[.string (tAt S c), .int .i64 at', .int .i64 0])) ∧ Hc B most hb L c S (k + 1) w' ∧ Kept (fun q => B ≤ q) W w' := by
  obtain ⟨ad, cp, mb, kv, hq, hcp, hmb, hkv, hno⟩ := h.q
  have hI := h.inv
  have hcl := hI.lt
  have hml := hI.may.le
  obtain ⟨e, he⟩ : ∃ e, L[c + 1]? = some e := ⟨_, List.getElem?_eq_getElem hcl⟩
  obtain ⟨ep, hep⟩ : ∃ ep, L[c]? = some ep := ⟨_, List.getElem?_eq_getElem (by omega)⟩
  have hpa : e.pa = (c : Int) := by rw [h.par _ _ he]; omega
  have hsq := hI.sq _ _ hep
  have hip : idx L e.pa = (c : Nat) := by rw [hpa]; exact hI.idx (by omega)
  have cB := back_any ad L.length cp L _ W hq.ng hcp hq.tabs hI.may (c + 1) c e ep (hI.idx hcl) (by omega) he hip hep
  have HT := Lib.hid (fun A' n' c' at' s' W' (h' : Hq most ad L.length cp L ((c + 1 : Nat) : Int) mb hb (tAt S (c + 1)) k kv W') => hto_ok A' n' c' (c : Int) at' s' (tAt S c) [tAt S c] (rowG L S) [bt (tAt S (c + 1)) (tAt S c)] [] W' h' hml (rowG_good (B := B) (most := most) (hb := hb) (k := k) hI h.par hkv) (.up (by omega) (rowG_at hcl) (by omega) (.done _)) (by simp) (by simp) (by omega) (by omega) rfl (by simp) (by intro t ht; simp only [List.mem_cons, List.not_mem_nil, or_false] at ht; rcases ht with rfl | rfl <;> exact tAt_may h.may _) rfl hk)
  rw [hsq] at cB
  obtain ⟨_, f1, f2, _⟩ := hist_facts hq.box
  have HQ := Lib.hid hq
  have HH := Lib.hid h
  have HREST : Hid (L.length ≤ cp ∧ B ≤ mb ∧ (∀ i : Nat, i + 1 < L.length → kv.lookup ((i + 1 : Nat) : Int) = some (lnkS S i)) ∧ (∀ i : Nat, L.length ≤ i → kv.lookup ((i : Nat) : Int) = none)) := ⟨hcp, hmb, hkv, hno⟩
  have HI := Lib.hid hI
  have HLT := Lib.hid (heap_lt hq.box)
  clear hq hcp hmb hkv hno hI he hep hpa hip h
  go_enter Tryd.func26, Tryd.ntmps26
  go_wp2_with (first
    | (go_at_call 46; refine cB.mono ?_; rintro r w1 ⟨⟨v, rfl, hO⟩, hk1⟩; obtain ⟨A1, c1, rfl, hN1, hc1, hn1⟩ := hO.slice; have HO1 := Lib.hid hO; have HK1 := Lib.hid hk1; have HQ1 := Lib.hid (HQ.out.kept hk1); have HC1 := Lib.hid hc1; have HN1 := Lib.hid hn1; clear hk1 hO hN1 hc1 hn1 cB f1 f2)
    | (go_at_call 45; refine (HT.out _ _ _ _ _ _ HQ1.out).mono ?_; rintro r w2 ⟨rfl, hB2, hk2⟩; have HB2 := Lib.hid hB2; have HK2 := Lib.hid hk2; clear hB2 hk2))
  refine bodyPost_ret (v := .tuple #[.string (tAt S c), .int .i64 e.at_, .int .i64 0]) (by simp [results, Tryd.results26, go_sem]) rfl ⟨⟨_, rfl⟩, ?_, ?_⟩
  · have hO2 := HO1.out.keptS HK2.out (fun q hq (e : q = hb) => by have := HLT.out; omega)
    obtain ⟨A2, c2, e2, hN2, hc2, hn2⟩ := hO2.slice
    injection e2 with e2 _ e3
    subst e2
    subst e3
    have hp2 := HI.out.may.ge
    cases A1 with
    | none => exact absurd (hn2 rfl).1 (by omega)
    | some a1 =>
      have hlo := HQ.out.lo
      exact ⟨⟨a1, c1, mb, kv, ⟨HQ1.out.tabs.kept HK2.out (by omega) (by omega), HB2.out, hN2, HQ1.out.mp.kept HK2.out (fun e => by
        obtain ⟨es, cl, h1, _⟩ := HQ.out.mp
        rw [e, HQ.out.box] at h1
        cases h1), hlo⟩, hc2, HREST.out.2⟩, HI.out.cur (by have := HI.out.lt; omega), HH.out.par, HH.out.sl, HH.out.may, HH.out.lo⟩
  · exact (HK1.out.any).trans (HK2.out.mono (fun q _ e => by have := HH.out.lo; omega))
set_option maxRecDepth 100000 in
set_option maxHeartbeats 4000000 in
theorem hcback_root {B most hb : Nat} {L : List NodeS} {S : List ByteArray} {k : Int} {W : World} (h : Hc B most hb L 0 S k W) :
    Calls Tryd.prog 26 #[.pointer (some ⟨hb, 0, none⟩)] W fun r w' => r = .returned (.tuple #[.string ⟨#[]⟩, .int .i64 0, .int .i64 6]) ∧ Kept (fun _ => False) W w' := by
  obtain ⟨ad, cp, mb, kv, hq, hcp, hmb, hkv, hno⟩ := h.q
  have hI := h.inv
  have cB := back_root ad L.length cp L _ W hq.ng hcp hq.tabs hI.may (hI.idx hI.lt)
  obtain ⟨_, f1, f2, _⟩ := hist_facts hq.box
  have cT := fun W => hto_err (hb := hb) (.slice none 0 0) 0 0 6 ⟨#[]⟩ W (by decide)
  clear hq hcp hmb hkv hno hI h
  go_enter Tryd.func26, Tryd.ntmps26
  go_wp2_with (first
    | (go_at_call 46; refine cB.mono ?_; rintro r w1 ⟨rfl, hk1⟩; have HK1 := Lib.hid hk1; clear hk1 cB f1 f2)
    | (go_at_call 45; refine (cT _).mono ?_; rintro r w2 ⟨rfl, hk2⟩; have HK2 := Lib.hid (HK1.out.trans hk2); clear hk2))
  exact bodyPost_ret (v := .tuple #[.string ⟨#[]⟩, .int .i64 0, .int .i64 6]) (by simp [results, Tryd.results26, go_sem]) rfl ⟨rfl, HK2.out⟩
set_option maxRecDepth 100000 in
set_option maxHeartbeats 4000000 in
theorem hcagain_any {B most hb : Nat} {L : List NodeS} {c : Nat} {S : List ByteArray} {k : Int} {W : World} (h : Hc B most hb L c S k W) (hc : c + 1 < L.length) (hk : 0 ≤ k ∧ k ≤ 1000000) :
    Calls Tryd.prog 27 #[.pointer (some ⟨hb, 0, none⟩)] W fun r w' => (∃ at' : Int, r = .returned (.tuple #[.string (tAt S (c + 1)), .int .i64 at', .int .i64 0])) ∧ Hc B most hb L (c + 1) S (k + 1) w' ∧ Kept (fun q => B ≤ q) W w' := by
  obtain ⟨ad, cp, mb, kv, hq, hcp, hmb, hkv, hno⟩ := h.q
  have hI := h.inv
  have hml := hI.may.le
  obtain ⟨e, he⟩ : ∃ e, L[c + 1]? = some e := ⟨_, List.getElem?_eq_getElem hc⟩
  have hpa : e.pa = (c : Int) := by rw [h.par _ _ he]; omega
  have hsq := hI.sq _ _ he
  have cB := again_any ad L.length cp L _ W hq.ng hcp hq.tabs hI.may (c + 1) e (by omega) he hpa (fun j e' hj he' => by rw [h.par _ _ he']; omega)
  have HT := Lib.hid (fun A' n' c' at' s' W' (h' : Hq most ad L.length cp L (c : Int) mb hb (tAt S c) k kv W') => hto_ok A' n' c' ((c + 1 : Nat) : Int) at' s' (tAt S (c + 1)) [tAt S (c + 1)] (rowG L S) [] [bt (tAt S c) (tAt S (c + 1))] W' h' hml (rowG_good (B := B) (most := most) (hb := hb) (k := k) hI h.par hkv) (.down (by omega) (rowG_at hc) (by omega) (.done _)) (by simp) (by simp) (by omega) (by omega) rfl (by simp) (by intro t ht; simp only [List.mem_cons, List.not_mem_nil, or_false] at ht; rcases ht with rfl | rfl <;> exact tAt_may h.may _) rfl hk)
  rw [hsq] at cB
  obtain ⟨_, f1, f2, _⟩ := hist_facts hq.box
  have HQ := Lib.hid hq
  have HH := Lib.hid h
  have HREST : Hid (L.length ≤ cp ∧ B ≤ mb ∧ (∀ i : Nat, i + 1 < L.length → kv.lookup ((i + 1 : Nat) : Int) = some (lnkS S i)) ∧ (∀ i : Nat, L.length ≤ i → kv.lookup ((i : Nat) : Int) = none)) := ⟨hcp, hmb, hkv, hno⟩
  have HI := Lib.hid hI
  have HLT := Lib.hid (heap_lt hq.box)
  clear hq hcp hmb hkv hno hI he hpa h
  go_enter Tryd.func27, Tryd.ntmps27
  go_wp2_with (first
    | (go_at_call 47; refine cB.mono ?_; rintro r w1 ⟨⟨v, rfl, hO⟩, hk1⟩; obtain ⟨A1, c1, rfl, hN1, hc1, hn1⟩ := hO.slice; have HO1 := Lib.hid hO; have HK1 := Lib.hid hk1; have HQ1 := Lib.hid (HQ.out.kept hk1); have HC1 := Lib.hid hc1; have HN1 := Lib.hid hn1; clear hk1 hO hN1 hc1 hn1 cB f1 f2)
    | (go_at_call 45; refine (HT.out _ _ _ _ _ _ HQ1.out).mono ?_; rintro r w2 ⟨rfl, hB2, hk2⟩; have HB2 := Lib.hid hB2; have HK2 := Lib.hid hk2; clear hB2 hk2))
  refine bodyPost_ret (v := .tuple #[.string (tAt S (c + 1)), .int .i64 e.at_, .int .i64 0]) (by simp [results, Tryd.results27, go_sem]) rfl ⟨⟨_, rfl⟩, ?_, ?_⟩
  · have hO2 := HO1.out.keptS HK2.out (fun q hq (e : q = hb) => by have := HLT.out; omega)
    obtain ⟨A2, c2, e2, hN2, hc2, hn2⟩ := hO2.slice
    injection e2 with e2 _ e3
    subst e2
    subst e3
    have hp2 := HI.out.may.ge
    cases A1 with
    | none => exact absurd (hn2 rfl).1 (by omega)
    | some a1 =>
      have hlo := HQ.out.lo
      exact ⟨⟨a1, c1, mb, kv, ⟨HQ1.out.tabs.kept HK2.out (by omega) (by omega), HB2.out, hN2, HQ1.out.mp.kept HK2.out (fun e => by
        obtain ⟨es, cl, h1, _⟩ := HQ.out.mp
        rw [e, HQ.out.box] at h1
        cases h1), hlo⟩, hc2, HREST.out.2⟩, HI.out.cur hc, HH.out.par, HH.out.sl, HH.out.may, HH.out.lo⟩
  · exact (HK1.out.any).trans (HK2.out.mono (fun q _ e => by have := HH.out.lo; omega))
end Go.Proofs.YthbfmdnibijapaaDoor
