/-
  HISTORY: a node's parent; patches applied; patches appended.
-/
import Derived.Test.YthbfmdnibijapaaDoorHiA
import Derived.Test.YthbfmdnibijapaaDoorUnH
set_option linter.unusedVariables false
namespace Go.Proofs.YthbfmdnibijapaaDoor
open Go Go.RowKit

/-- A history in memory. -/
structure Hq (most : Int) (ad : Addr) (n c : Nat) (L : List NodeS) (cur : Int) (mb hb : Nat) (s : ByteArray) (k : Int) (kv : List (Int × Value)) (W : World) : Prop where
  tabs : Tabs W
  box : W.heap[hb]? = some (histO most (.slice (some ad) n c) cur mb s k)
  ng : Ng W (some ad) n L
  mp : MapI W mb kv
  lo : 1 < hb ∧ 1 < mb
theorem Hq.kept {most : Int} {ad : Addr} {n c : Nat} {L : List NodeS} {cur : Int} {mb hb : Nat} {s : ByteArray} {k : Int} {kv : List (Int × Value)} {W W' : World} (h : Hq most ad n c L cur mb hb s k kv W) (hk : Kept (fun _ => False) W W') : Hq most ad n c L cur mb hb s k kv W' :=
  ⟨h.tabs.kept hk id id, (hk.block _ (heap_lt h.box) id).trans h.box, h.ng.kept hk (fun _ _ => id), h.mp.kept hk id, h.lo⟩
section
variable {most : Int} {ad : Addr} {n c : Nat} {L : List NodeS} {cur : Int} {mb hb : Nat} {s : ByteArray} {k : Int} {kv : List (Int × Value)}
set_option maxRecDepth 100000 in
set_option maxHeartbeats 4000000 in
theorem parent_any (z : Int) (i : Nat) (e : NodeS) (w : World) (h : Hq most ad n c L cur mb hb s k kv w) (hn : n ≤ 64) (hi : idx L z = (i : Nat)) (he : L[i]? = some e) :
    Calls Tryd.prog 54 #[.pointer (some ⟨hb, 0, none⟩), .int .i64 z] w fun r w' => r = .returned (.int .i64 e.pa) ∧ Kept (fun _ => False) w w' := by
  have hin : i < n := (h.ng.nd he).1
  have b1 : (0 : Int) ≤ (i : Int) := by omega
  have b2 : (i : Int) < (n : Int) := by omega
  have HH := Lib.hid h
  have cF := fun W (h : Hq most ad n c L cur mb hb s k kv W) => hfind_any (some ad) n c L cur z W h.ng (by omega)
  rw [hi] at cF
  have HCF := Lib.hid cF
  have KF : Hid (∀ W, Kept (fun _ => False) w W → W.cell? ⟨hb, 1, none⟩ = some (.slice (some ad) n c) ∧ W.cell? ⟨hb, 2, none⟩ = some (.int .i64 cur) ∧ W.cell? ⟨(ad.add (i * 4)).block, (ad.add (i * 4)).off + 1, none⟩ = some (.int .i64 e.pa)) := by
    show ∀ W, _
    intro W hk
    have hI := HH.out.kept hk
    exact ⟨(hist_facts hI.box).2.1, (hist_facts hI.box).2.2.1, ((hI.ng.nd he).2).c1⟩
  have KA := KF.out w.drew (Kept.refl _ w).drew
  have HD := Lib.hid (HH.out.kept (Kept.refl (fun _ => False) w).drew)
  clear h hi he cF
  go_enter Tryd.func54, Tryd.ntmps54
  go_upto_region 1 with fail
  go_region_held3 (fun (W : World) => W.cell? ⟨hb, 1, none⟩ = some (.slice (some ad) n c) ∧ W.cell? ⟨hb, 2, none⟩ = some (.int .i64 cur) ∧ W.cell? ⟨(ad.add (i * 4)).block, (ad.add (i * 4)).off + 1, none⟩ = some (.int .i64 e.pa))
    (first | with_reducible exact KB | with_reducible exact KA)
    (first | (go_at_call 40; refine (HCF.out _ HD.out).mono ?_; rintro r w3 ⟨rfl, hk3⟩; have HK3 := Lib.hid ((Kept.refl (fun _ => False) w).drew.trans hk3); have KB := KF.out w3 HK3.out; clear hk3))
  all_goals
    go_wp2_with fail
    go_ret
    exact ⟨rfl, HK3.out⟩
end

theorem ps_news {w : World} {ad : Addr} {n : Nat} {L : List PatS} (h : Ps w (some ad) n L) : ∀ j u, (flatP L)[j]? = some u → w.cell? (ad.add j) = some u := by
  intro j u hj
  have hlt : j < L.length * 3 := by
    by_cases hl : j < L.length * 3
    · exact hl
    · rw [List.getElem?_eq_none (by rw [flatP_len]; omega)] at hj; cases hj
  have hk : j / 3 < L.length := by omega
  have hr : L[j / 3]? = some L[j / 3] := List.getElem?_eq_getElem hk
  obtain ⟨ad', he, h4⟩ := h.at' _ _ hr
  injection he with he
  subst he
  generalize L[j / 3] = r at *
  rcases (by omega : j % 3 = 0 ∨ j % 3 = 1 ∨ j % 3 = 2) with hm | hm | hm
  · have e : j / 3 * 3 + 0 = j := by omega
    have h0 := flatP_get hr (f := 0) rfl
    rw [e] at h0
    rw [h0] at hj
    cases hj
    have := h4.c0
    rwa [show j / 3 * 3 = j by omega] at this
  · have e : j / 3 * 3 + 1 = j := by omega
    have h0 := flatP_get hr (f := 1) rfl
    rw [e] at h0
    rw [h0] at hj
    cases hj
    have := h4.c1
    rwa [add_offN _ _ _ (by omega), e] at this
  · have e : j / 3 * 3 + 2 = j := by omega
    have h0 := flatP_get hr (f := 2) rfl
    rw [e] at h0
    rw [h0] at hj
    cases hj
    have := h4.c2
    rwa [add_offN _ _ _ (by omega), e] at this
theorem run_app_pats {w : World} {base : Nat} {v : Value} {bl : List PatS} (hown : Op3 w base v bl) (A : Option Addr) (m c : Nat) (l : List PatS) (hM : Ps w A m l) (hC : A = none → m = 0 ∧ c = 0) (hb : bl.length + m ≤ 100000) (hbase : base ≤ w.heap.size) (ty : TypeId) :
    ∃ v' w', (Builtin.append_ #[76, 76] ty #[v, .slice A m c]).run Tryd.prog w = .ok v' w' ∧ Op3 w' base v' (bl ++ l) ∧ w.grownBy w' v.ownBlock ∧ (v'.ownBlock = v.ownBlock ∨ v'.ownBlock = some w.heap.size) := by
  obtain ⟨i0, hi, hz0, hz1, hz2⟩ := info_parts info_pat
  have hl := hM.1
  match A, hM, hC with
  | none, hM, hC =>
    obtain ⟨rfl, rfl⟩ := hC rfl
    obtain rfl := List.eq_nil_of_length_eq_zero hl
    rw [List.append_nil]
    exact ⟨v, w, run_append_owned_none (P := Tryd.prog) (w := w) base 76 ty 79 i0 3 Tryd.underlying76 hi v bl.length (flatP bl) hown, hown, ⟨rfl, rfl, rfl, Nat.le_refl _, fun _ _ _ => rfl⟩, .inl rfl⟩
  | some ad, hM, hC =>
    obtain ⟨v', w', h1, h2, h3, _, h5⟩ := run_append_own_at (P := Tryd.prog) w base 76 ty 79 i0 (.agg #[.int .i64 0, .int .i64 0, .string ⟨#[]⟩]) 3 32 Tryd.underlying76 hi hz0 hz1 hz2 rfl (by decide) v bl.length (flatP bl) hown ad m c (flatP l) (by rw [flatP_len, hl]) (ps_news hM) flatP_one' (by unfold maxLen; omega) (by omega) hbase
    exact ⟨v', w', h1, by unfold Op3; rw [List.length_append, hl, flatP_app]; exact h2, h3, h5⟩
theorem wpList_app_pats {w : World} {ops : Array Oper} {rest : List Oper} {o : Oper} {a : Act} {Q : Exit → Act → World → Prop} (hgd : o.guard = none) (s x : Operand) (ho : o.op = .call { callee := .builtin .append, args := #[s, x], argTypes := #[76, 76] })
    (base : Nat) (v : Value) (bl : List PatS) (hs : a.eval s = v) (hown : Op3 w base v bl) (A : Option Addr) (m c : Nat) (l : List PatS) (hx : a.eval x = .slice A m c) (hM : Ps w A m l) (hC : A = none → m = 0 ∧ c = 0) (hb : bl.length + m ≤ 100000) (hbase : base ≤ w.heap.size)
    (hK : ∀ v' w', Op3 w' base v' (bl ++ l) → w.grownBy w' v.ownBlock → (v'.ownBlock = v.ownBlock ∨ v'.ownBlock = some w.heap.size) → wpList Tryd.prog ops Q rest (a.put o.dst v') w') : wpList Tryd.prog ops Q (o :: rest) a w := by
  refine wpList_plain hgd fun K hK' => ?_
  obtain ⟨v', w', hrun, h1, h2, h3⟩ := run_app_pats hown A m c l hM hC hb hbase o.type
  unfold Oper.wp
  simp [execOp, ho, resolve, invoke, builtin, hs, hx, hrun, Result.andThen]
  exact hK' _ _ (hK v' w' h1 h2 h3)
theorem ps_built (W : World) (p : PatS) : Ps (W.alloc (.cells #[.int .i64 p.pat, .int .i64 p.del, .string p.ins] 79)) (some ⟨W.heap.size, 0, none⟩) 1 [p] := by
  refine ⟨rfl, fun k q hk => ⟨_, rfl, ?_⟩⟩
  match k, hk with
  | 0, hk =>
    injection hk with hk
    subst hk
    exact ⟨cell_of_row _ _ _ _ _ _ (heap_alloc_new W _), cell_of_row _ _ _ _ _ _ (heap_alloc_new W _), cell_of_row _ _ _ _ _ _ (heap_alloc_new W _)⟩
  | k + 1, hk => simp at hk
/-- Patches from each text to the next one. -/
def chain : ByteArray → List ByteArray → List PatS
  | _, [] => []
  | s, q :: Q => bt s q :: chain q Q
theorem chain_len : ∀ (s : ByteArray) (Q : List ByteArray), (chain s Q).length = Q.length
  | _, [] => rfl
  | s, q :: Q => by unfold chain; rw [List.length_cons, List.length_cons, chain_len q Q]
theorem chain_get : ∀ (s : ByteArray) (Q : List ByteArray) (k : Nat) (q : ByteArray), Q[k]? = some q → ∃ a, (s :: Q)[k]? = some a ∧ (chain s Q)[k]? = some (bt a q)
  | s, [], k, q, h => by simp at h
  | s, x :: Q, 0, q, h => by
    simp only [List.getElem?_cons_zero, Option.some.injEq] at h
    subst h
    exact ⟨s, rfl, rfl⟩
  | s, x :: Q, k + 1, q, h => by
    obtain ⟨a, h1, h2⟩ := chain_get x Q k q (by simpa using h)
    exact ⟨a, by simpa using h1, by unfold chain; simpa using h2⟩
set_option maxRecDepth 100000 in
set_option maxHeartbeats 4000000 in
theorem happly_any (A : Option Addr) (n c : Nat) (s : ByteArray) (Q : List ByteArray) (w : World) (hA : Ps w A n (chain s Q)) (hT : Tabs w) (hn : n ≤ 100000) (hm : ∀ t ∈ s :: Q, mayB t = true) (z : ByteArray) (hz : (s :: Q).getLast? = some z) :
    Calls Tryd.prog 38 #[.string s, .slice A n c] w fun e w' => e = .returned (.string z) ∧ Kept (fun _ => False) w w' := by
  have HA := Lib.hid hA
  have HT := Lib.hid hT
  have HM := Lib.hid hm
  have HLN : Hid (Q.length = n) := by have := hA.len; rw [chain_len] at this; exact this
  have HZ : Hid ((s :: Q)[n]? = some z) := by
    show _ = _
    rw [List.getLast?_eq_getElem?] at hz
    rw [← HLN.out]
    simpa using hz
  clear hA hT hm hz
  go_enter Tryd.func38, Tryd.ntmps38
  go_wp2_with fail
  go_loopw [0, 9] (fun t v wr => ∃ (k : Nat) (x : ByteArray), k ≤ n ∧ v = .int .i64 k ∧ t = .string x ∧ (s :: Q)[k]? = some x ∧ Kept (fun _ => False) w wr) (fun _ v _ => n - (intOf v).toNat)
  case atStart => exact ⟨0, s, Nat.zero_le _, rfl, rfl, rfl, Kept.refl _ _⟩
  case round =>
    obtain ⟨k, x, hk, rfl, rfl, hx, hkept⟩ := hrel
    have HK := Lib.hid hkept
    have HX := Lib.hid hx
    clear hkept hx
    by_cases hlt : k < n
    · obtain ⟨q, hq⟩ : ∃ q, Q[k]? = some q := ⟨_, List.getElem?_eq_getElem (by have := HLN.out; omega)⟩
      obtain ⟨a, ha, hp⟩ := chain_get s Q k q hq
      rw [HX.out] at ha
      injection ha with ha
      subst ha
      obtain ⟨ad, p, rfl, hp', h4⟩ := (HA.out.kept HK.out (fun _ _ => id)).at_ hlt
      rw [hp] at hp'
      injection hp' with hp'
      have HPE := Lib.hid hp'
      have HQX : Hid ((s :: Q)[k + 1]? = some q) := by show _ = _; simpa using hq
      have cP := fun W (h : Tabs W) => papply_b x q W h (HM.out x (List.mem_of_getElem? HX.out)) (HM.out q (List.mem_of_getElem? HQX.out))
      rw [bt_btw, hp'] at cP
      have hTa := (HT.out.kept HK.out id id).kept ((Kept.refl (fun _ => False) wr).alloc (patO p.pat p.del p.ins)) id id
      have cP1 := cP _ hTa
      have HKA := Lib.hid (HK.out.trans ((Kept.refl (fun _ => False) wr).alloc (patO p.pat p.del p.ins)))
      have HG := Lib.hid (heap_alloc_new wr (patO p.pat p.del p.ins))
      obtain ⟨p0, p1, p2⟩ := p
      obtain ⟨c0, c1, c2⟩ := h4
      simp only at c0 c1 c2 cP1 HKA HG
      have b1 : decide (k < n) = true := decide_eq_true hlt
      have b2 : decide ((k : Int) < (n : Int)) = true := decide_eq_true (by omega)
      have t1 : (0 : Int) ≤ (k : Int) := by omega
      have t2 : (k : Int) < (n : Int) := by omega
      clear hq hp hp' cP hTa HPE
      go_upto_region 4 with fail
      clear c0 c1 c2
      obtain ⟨g, hg⟩ : ∃ g, wr.heap.size = g := ⟨_, rfl⟩
      simp only [hg] at HG ⊢
      clear hg
      generalize wr.alloc _ = wa at *
      obtain ⟨g0, g1, g2⟩ := pat_cells HG.out
      go_wp2_with (go_at_call 53; refine cP1.mono ?_; rintro e w2 ⟨rfl, hk2⟩; have HK2 := Lib.hid (HKA.out.trans hk2); clear hk2 cP1)
      go_roundw
      case rel => exact ⟨k + 1, q, by omega, by go_num, rfl, HQX.out, HK2.out⟩
      case measure => simp [intOf] <;> omega
    · obtain rfl : k = n := by omega
      have b1 : decide (k < k) = false := decide_eq_false (by omega)
      have b2 : decide ((k : Int) < (k : Int)) = false := decide_eq_false (by omega)
      have HV : Hid (x = z) := by
        show _ = _
        have h1 := HX.out
        rw [HZ.out] at h1
        injection h1 with h1
        exact h1.symm
      go_wp2_with fail
      go_ret
      exact ⟨by rw [HV.out]; rfl, HK.out⟩
end Go.Proofs.YthbfmdnibijapaaDoor
