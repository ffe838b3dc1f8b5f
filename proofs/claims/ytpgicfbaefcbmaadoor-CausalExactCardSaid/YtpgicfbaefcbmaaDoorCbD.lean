/-
  CAUSAL ORDER: the reference's Add.
-/
import Derived.Test.YtpgicfbaefcbmaaDoorCbC
import Derived.Test.YtpgicfbaefcbmaaDoorCaJ
set_option linter.unusedVariables false
namespace Go.Proofs.YtpgicfbaefcbmaaDoor
open Go Go.RowKit

theorem OpsM.take_ {w : World} {A : Option Addr} {n k : Nat} {al : List OpS} (h : OpsM w A n al) (hk : k ≤ n) : OpsM w A k (al.take k) := by
  refine ⟨by rw [List.length_take, h.1]; omega, fun j b hj => ?_⟩
  rw [List.getElem?_take] at hj
  split at hj
  · exact h.2 j b hj
  · cases hj
theorem addr_add2 (a : Addr) (x y : Nat) : (a.add x).add y = a.add (x + y) := by
  unfold Addr.add
  by_cases hx : x = 0
  · subst hx
    rw [if_pos rfl, Nat.zero_add]
  · by_cases hy : y = 0
    · subst hy
      rw [if_pos rfl, Nat.add_zero]
    · rw [if_neg hx, if_neg hy, if_neg (by omega), Nat.add_assoc]
theorem OpsM.drop_ {w : World} {ad : Addr} {n c : Nat} {al : List OpS} (h : OpsM w (some ad) n al) (hc : n ≤ c) (m : Nat) : OpsM w (if c = m then some ad else some (ad.add (m * 9))) (n - m) (al.drop m) := by
  refine ⟨by rw [List.length_drop, h.1], fun j b hj => ?_⟩
  rw [List.getElem?_drop] at hj
  have hl := (List.getElem?_eq_some_iff.1 hj).1
  have hn := h.1
  obtain ⟨⟨a, e, h9⟩, hok⟩ := h.2 _ b hj
  cases e
  rw [if_neg (by omega)]
  refine ⟨⟨_, rfl, ?_⟩, hok⟩
  rw [addr_add2, ← Nat.add_mul]
  exact h9
/-- How the reference stands, in memory. -/
structure RI (w0 w : World) (B g xc M : Nat) (T : Value) (A : Option Addr) (n c : Nat) (tl ll : List OpS) (vs : List Int) : Prop where
  kept : Kept (fun _ => False) w0 w
  tg : Tg w B T tl
  l : OpsM w A n ll
  cp : Cp A n c
  lA : 0 < n → ∀ a, A = some a → B ≤ a.block ∧ ¬ T.ownBlock = some a.block
  lq : ∀ q ∈ ll, 0 < q.n → ∀ a, q.A = some a → B ≤ a.block ∧ ¬ T.ownBlock = some a.block
  tq : ∀ q ∈ tl, 0 < q.n → ∀ a, q.A = some a → B ≤ a.block
  ok : ∀ q ∈ ll, Cd.opOk q.o
  v : Vm w g xc vs
  vl : Cd.vecOk vs
  len : tl.length + ll.length ≤ M
  lt : w0.heap.size ≤ g ∧ g < B ∧ B ≤ w.heap.size
theorem RI.keep {w0 w w' : World} {B g xc M : Nat} {T : Value} {A : Option Addr} {n c : Nat} {tl ll : List OpS} {vs : List Int} (h : RI w0 w B g xc M T A n c tl ll vs) (hk : Kept (fun _ => False) w w') : RI w0 w' B g xc M T A n c tl ll vs :=
  ⟨h.kept.trans hk, h.tg.keep hk, h.l.kept hk (fun _ _ => id) (fun _ _ _ _ => id), h.cp, h.lA, h.lq, h.tq, h.ok, h.v.kept hk id, h.vl, h.len, h.lt.1, h.lt.2.1, Nat.le_trans h.lt.2.2 hk.size⟩
theorem RI.weak {w0 w : World} {B g xc M M' : Nat} {T : Value} {A : Option Addr} {n c : Nat} {tl ll : List OpS} {vs : List Int} (h : RI w0 w B g xc M T A n c tl ll vs) (hM : M ≤ M') : RI w0 w B g xc M' T A n c tl ll vs :=
  ⟨h.kept, h.tg, h.l, h.cp, h.lA, h.lq, h.tq, h.ok, h.v, h.vl, Nat.le_trans h.len hM, h.lt⟩
theorem ri_start {w0 w : World} {B g xc M : Nat} {T : Value} {ll : List OpS} {vs0 : List Int} (hk : Kept (fun _ => False) w0 w) (htg : Tg w B T ll) (hfr : ∀ q ∈ ll, ∀ a, q.A = some a → B ≤ a.block) (hok : ∀ q ∈ ll, Cd.opOk q.o) (hv : Vm w g xc vs0) (hvo : Cd.vecOk vs0) (hM : ll.length ≤ M) (hlt : w0.heap.size ≤ g ∧ g < B ∧ B ≤ w.heap.size) :
    ∃ A n c, T = .slice A n c ∧ RI w0 w B g xc M (.slice none 0 0) A n c [] ll vs0 := by
  obtain ⟨A, c, e, hl, hB, hC⟩ := own_ops htg.own htg.ok
  exact ⟨A, _, c, e, hk, tg_nil _ _, hl, hC, fun _ a ha => ⟨hB a ha, fun h => by cases h⟩, fun q hq _ a ha => ⟨hfr q hq a ha, fun h => by cases h⟩, (fun q hq => by cases hq), hok, hv, hvo, by simpa using hM, hlt⟩
/-- One is left out of what waits. -/
theorem RI.cut {w0 w w10 w11 : World} {B g xc M k : Nat} {T T10 T11 : Value} {A : Option Addr} {n c : Nat} {tl ll l10 : List OpS} {vs : List Int} (h : RI w0 w B g xc M T A n c tl ll vs) (hk : k < n) (hk10 : Kept (fun _ => False) w w10) (htg : Tg w10 w.drew.heap.size T10 l10) (hl : l10.map (·.o) = (ll.take k).map (·.o)) (hf : ∀ q ∈ l10, ∀ a, q.A = some a → w.drew.heap.size ≤ a.block)
    (hown : w11.ownsRow w.drew.heap.size 32 9 T11 (l10 ++ ll.drop (k + 1)).length (flatO (l10 ++ ll.drop (k + 1)))) (hg : w10.grownBy w11 T10.ownBlock) (hat : T11.ownBlock = T10.ownBlock ∨ T11.ownBlock = some w10.heap.size) :
    ∃ A' n' c', T11 = .slice A' n' c' ∧ RI w0 w11 B g xc (M - 1) T A' n' c' tl (l10 ++ ll.drop (k + 1)) vs ∧ n' + 1 = n ∧ (l10 ++ ll.drop (k + 1)).map (·.o) = Cd.rmv (ll.map (·.o)) k := by
  have hsz : w.drew.heap.size = w.heap.size := rfl
  rw [hsz] at htg hf hown
  have hln := h.l.1
  have hoks := (h.l.kept hk10 (fun _ _ => id) (fun _ _ _ _ => id)).oks
  have hT11 : Tg w11 w.heap.size T11 (l10 ++ ll.drop (k + 1)) := htg.apps (Kept.refl _ _) (fun q hq => hoks q (List.mem_of_mem_drop hq)) (fun q hq h0 a ha e => by
    have h1 := (h.l.oks q (List.mem_of_mem_drop hq)).lt h0 ha
    have h2 := (htg.own.lt _ e).1
    omega) hown hg hat
  have hkk : Kept (fun _ => False) w w11 := hk10.fresh (grown_kept (Kept.refl _ _) hg) (fun q hq e => by
    have h1 := (htg.own.lt _ e).1
    omega)
  have hlen : l10.length = k := by
    have e := congrArg List.length hl
    rw [List.length_map, List.length_map, List.length_take] at e
    omega
  obtain ⟨A', c', e, hl', hB, hC⟩ := own_ops hT11.own hT11.ok
  have hr := h.keep hkk
  have hmap : (l10 ++ ll.drop (k + 1)).map (·.o) = Cd.rmv (ll.map (·.o)) k := by
    rw [List.map_append, hl, Cd.rmv, List.map_take, List.map_drop]
  have hTB := h.tg.own.lt
  have hl4 := h.lt
  refine ⟨A', _, c', e, ⟨hr.kept, hr.tg, hl', hC, fun _ a ha => ⟨by have := hB a ha; omega, fun e => by have h1 := hB a ha; have h2 := (hTB _ e).2; omega⟩, fun q hq h0 a ha => ?_, hr.tq, fun q hq => ?_, hr.v, hr.vl, ?_, hr.lt⟩, ?_, hmap⟩
  · rcases List.mem_append.1 hq with hq | hq
    · have h1 := hf q hq a ha
      exact ⟨by omega, fun e => by have h2 := (hTB _ e).2; omega⟩
    · exact h.lq q (List.mem_of_mem_drop hq) h0 a ha
  · have hm : q.o ∈ ll.map (·.o) := by
      rcases List.mem_append.1 hq with hq | hq
      · have : q.o ∈ (ll.take k).map (·.o) := by rw [← hl]; exact List.mem_map_of_mem hq
        obtain ⟨z, hz, e⟩ := List.mem_map.1 this
        exact List.mem_map.2 ⟨z, List.mem_of_mem_take hz, e⟩
      · exact List.mem_map_of_mem (List.mem_of_mem_drop hq)
    obtain ⟨z, hz, e⟩ := List.mem_map.1 hm
    rw [← e]
    exact h.ok z hz
  · have h1 := h.len
    rw [List.length_append, List.length_drop, hlen]
    omega
  · rw [List.length_append, List.length_drop, hlen]
    omega
/-- One more is told. -/
theorem RI.told {w0 w w1 w8 : World} {B g xc M : Nat} {T T8 : Value} {A : Option Addr} {n c : Nat} {tl ll : List OpS} {vs : List Int} {q : OpS} (h : RI w0 w B g xc M T A n c tl ll vs) (hq : q ∈ ll) (hk1 : Kept (fun _ => False) w w1) (hown : w8.ownsRow B 32 9 T8 (tl ++ [q]).length (flatO (tl ++ [q]))) (hg : w1.grownBy w8 T.ownBlock) (hat : T8.ownBlock = T.ownBlock ∨ T8.ownBlock = some w1.heap.size) :
    RI w0 w8 B g xc (M + 1) T8 A n c (tl ++ [q]) ll vs := by
  have hkS := grown_kept hk1 hg
  have hTB := h.tg.own.lt
  obtain ⟨l1, l2, l3⟩ := h.lt
  have s1 := hk1.size
  have hap : ∀ (a : Addr), a.block < w.heap.size → ¬ T.ownBlock = some a.block → ¬ T8.ownBlock = some a.block := fun a ha hn e => by
    rcases hat with e2 | e2
    · rw [e2] at e
      exact hn e
    · rw [e2] at e
      injection e with e
      omega
  have hoks := h.l.oks
  refine ⟨h.kept.fresh hkS (fun z hz e => by have h1 := (hTB _ e).1; omega), h.tg.apps hk1 (fun z hz => by obtain rfl := List.mem_singleton.1 hz; exact hoks _ hq) (fun z hz h0 a ha => by obtain rfl := List.mem_singleton.1 hz; exact (h.lq _ hq h0 a ha).2) hown hg hat, h.l.kept' hkS (fun h0 a ha => (h.lA h0 a ha).2) (fun z hz h0 a ha => (h.lq z hz h0 a ha).2), h.cp, fun h0 a ha => ⟨(h.lA h0 a ha).1, hap a (h.l.lt h0 ha) (h.lA h0 a ha).2⟩, fun z hz h0 a ha => ⟨(h.lq z hz h0 a ha).1, hap a ((hoks z hz).lt h0 ha) (h.lq z hz h0 a ha).2⟩, fun z hz h0 a ha => ?_, h.ok, h.v.kept hkS (fun e => by have h1 := (hTB _ e).1; omega), h.vl, by rw [List.length_append, List.length_singleton]; have := h.len; omega, l1, l2, by have := hkS.size; omega⟩
  rcases List.mem_append.1 hz with hz | hz
  · exact h.tq z hz h0 a ha
  · obtain rfl := List.mem_singleton.1 hz
    exact (h.lq _ hq h0 a ha).1
/-- The vector is raised. -/
theorem RI.raise {w0 w : World} {B g xc M m : Nat} {T : Value} {A : Option Addr} {n c : Nat} {tl ll : List OpS} {vs : List Int} {x : Int} (h : RI w0 w B g xc M T A n c tl ll vs) (hx : vs[m]? = some x) (hx2 : x + 1 ≤ 2000) : RI w0 (w.setCell ⟨g, m, none⟩ (.int .i64 (x + 1))) B g xc M T A n c tl ll (vs.set m (x + 1)) := by
  have hkS : Kept (fun q => q = g) w (w.setCell ⟨g, m, none⟩ (.int .i64 (x + 1))) := (Kept.refl (fun q => q = g) w).setCell (p := ⟨g, m, none⟩) rfl _
  obtain ⟨l1, l2, l3⟩ := h.lt
  refine ⟨h.kept.fresh hkS (fun z hz e => by have e : z = g := e; omega), h.tg.keepS hkS (fun z hz e => by have h1 := (h.tg.own.lt _ hz).1; have e : z = g := e; omega) (fun z hz h0 a ha e => by have h1 := h.tq z hz h0 a ha; have e : a.block = g := e; omega), h.l.kept' hkS (fun h0 a ha e => by have h1 := (h.lA h0 a ha).1; have e : a.block = g := e; omega) (fun z hz h0 a ha e => by have h1 := (h.lq z hz h0 a ha).1; have e : a.block = g := e; omega), h.cp, h.lA, h.lq, h.tq, h.ok, h.v.set m (x + 1), ?_, h.len, l1, l2, Nat.le_trans l3 hkS.size⟩
  refine ⟨by rw [List.length_set]; exact h.vl.1, fun y hy => ?_⟩
  obtain ⟨i, hi, rfl⟩ := List.getElem_of_mem hy
  by_cases e : m = i
  · subst e
    rw [List.getElem_set_self]
    have h1 := h.vl.2 x (List.mem_of_getElem? hx)
    omega
  · rw [List.getElem_set_ne e]
    exact h.vl.2 _ (List.getElem_mem _)
/-- The first from an index on, or -1. -/
def Fo (P : Cd.OpP → Bool) (ll : List OpS) (j : Nat) (X : Int) : Prop :=
  (X = -1 ∧ ∀ (k : Nat) (q : OpS), j ≤ k → ll[k]? = some q → P q.o = false) ∨ ∃ (k : Nat) (q : OpS), j ≤ k ∧ X = (k : Int) ∧ ll[k]? = some q ∧ P q.o = true ∧ ∀ (k' : Nat) (q' : OpS), j ≤ k' → k' < k → ll[k']? = some q' → P q'.o = false
theorem Fo.end_ {P : Cd.OpP → Bool} {ll : List OpS} : Fo P ll ll.length (-1) := .inl ⟨rfl, fun k q hk hq => by
  have := (List.getElem?_eq_some_iff.1 hq).1
  omega⟩
theorem Fo.yes {P : Cd.OpP → Bool} {ll : List OpS} {j : Nat} {q : OpS} (hq : ll[j]? = some q) (h : P q.o = true) : Fo P ll j (j : Int) := .inr ⟨j, q, Nat.le_refl _, rfl, hq, h, fun k' q' h1 h2 => by omega⟩
theorem Fo.no {P : Cd.OpP → Bool} {ll : List OpS} {j : Nat} {X : Int} {q : OpS} (hF : Fo P ll (j + 1) X) (hq : ll[j]? = some q) (h : P q.o = false) : Fo P ll j X := by
  have key : ∀ (k : Nat) (q' : OpS), k = j → ll[k]? = some q' → P q'.o = false := fun k q' e h' => by
    subst e
    rw [hq] at h'
    injection h' with h'
    rw [← h']
    exact h
  rcases hF with ⟨rfl, hf⟩ | ⟨k, q', hk, rfl, hk2, hp, hf⟩
  · exact .inl ⟨rfl, fun k q' h1 h2 => if e : k = j then key k q' e h2 else hf k q' (by omega) h2⟩
  · exact .inr ⟨k, q', by omega, rfl, hk2, hp, fun k' q'' h1 h2 h3 => if e : k' = j then key k' q'' e h3 else hf k' q'' (by omega) h2 h3⟩
/-- What the reference's Add tells (fresh of it: the vector, what waits). -/
def RAddRet (w : World) (vs : List Int) (ws : List Cd.OpP) (o : Cd.OpP) (e : Ending) (w' : World) : Prop :=
  ∃ (A1 : Option Addr) (n1 c1 : Nat) (tl : List OpS) (g xc : Nat) (x : List Int) (A2 : Option Addr) (n2 c2 : Nat) (wl : List OpS),
    e = .returned (.tuple #[.slice A1 n1 c1, .slice (some ⟨g, 0, none⟩) 4 xc, .slice A2 n2 c2]) ∧ OpsM w' A1 n1 tl ∧ OpsM w' A2 n2 wl ∧ Nums w' (some ⟨g, 0, none⟩) 4 x ∧ Cp A1 n1 c1 ∧ Cp A2 n2 c2 ∧ Cd.vecOk x ∧ (∀ q ∈ wl, Cd.opOk q.o) ∧ Cd.Added vs ws o (tl.map (·.o)) x (wl.map (·.o)) ∧ w.heap.size ≤ g ∧ (0 < n2 → ∀ a, A2 = some a → w.heap.size ≤ a.block) ∧ ∀ q ∈ wl, 0 < q.n → ∀ a, q.A = some a → w.heap.size ≤ a.block
set_option maxRecDepth 100000 in
set_option maxHeartbeats 4000000 in
theorem radd_any (vad : Addr) (vc : Nat) (vs0 : List Int) (A : Option Addr) (n c : Nat) (al : List OpS) (b : OpS) (w : World) (hv : Nums w (some vad) 4 vs0) (hvo : Cd.vecOk vs0) (hA : OpsM w A n al) (hn : n ≤ 7000) (ho : ∀ q ∈ al, Cd.opOk q.o) (hb : OpOk w b) (hbo : Cd.opOk b.o) :
    Calls Tryd.prog 29 #[.slice (some vad) 4 vc, .slice A n c, opV b] w fun e w' => RAddRet w vs0 (al.map (·.o)) b.o e w' ∧ Kept (fun _ => False) w w' := by
  obtain ⟨i0, hi, hz0, hz1, hz2⟩ := info_parts info_op
  have hk0 : Kept (fun _ => False) w (w.alloc (opO b)) := (Kept.refl _ w).alloc _
  have cV := copynum_vm (some vad) 4 vc vs0 (w.alloc (opO b)) (hv.kept hk0 (fun _ _ => id)) (by omega) (by omega)
  have cC := fun W (hk : Kept (fun _ => False) w W) => copyops_any A n c al W (hA.kept hk (fun _ _ => id) (fun _ _ _ _ => id)) (by omega)
  have cB := fun W (hk : Kept (fun _ => False) w W) => copyop_any b W (hb.kept hk (fun _ _ => id))
  have hlt0 : (b.o.st - 1).toNat < vs0.length := by rw [hvo.1]; have := hbo.2.1; omega
  obtain ⟨x, hx⟩ : ∃ x, vs0[(b.o.st - 1).toNat]? = some x := ⟨_, List.getElem?_eq_getElem hlt0⟩
  obtain ⟨E, hE⟩ : ∃ E : Bool, decide (b.o.nn ≤ x) = E := ⟨_, rfl⟩
  have cR := fun g xc W (hV : Vm W g xc vs0) => rold_any (some ⟨g, 0, none⟩) xc vs0 b x W (hV.nums hvo.1) hbo.2.1 hx
  rw [hE] at cR
  have HE : Hid (Cd.odB vs0 b.o = E) := by
    show _ = _
    rw [← hE]
    unfold Cd.odB
    rw [hx]
  have HVO := Lib.hid hvo
  have HO := Lib.hid ho
  have HB := Lib.hid hb
  have HBO := Lib.hid hbo
  have HK0 := Lib.hid hk0
  have HLN : Hid (al.length = n) := hA.1
  have HP : Hid (Op9 (w.alloc (opO b)) ⟨w.heap.size, 0, none⟩ b) := op9_new
  have HCB := Lib.hid cB
  have HCR := Lib.hid cR
  clear hv hvo hA ho hb hbo hk0 hlt0 hx hE cB cR
  unfold opV at HCB HCR ⊢
  go_enter Tryd.func29, Tryd.ntmps29
  obtain ⟨⟨kd, t, si, t0, s0, rn, st, nn, seen⟩, Bb, m, mc⟩ := b
  simp only [opO] at *
  go_upto_region 1 with fail
  generalize w.alloc (.cells #[.int .i64 kd, .int .i64 t, .int .i64 si, .int .i64 t0, .int .i64 s0, .int .i64 rn, .int .i64 st, .int .i64 nn, .slice Bb m mc] 32) = w1 at *
  generalize hpb : w.heap.size = pb at *
  have HPB := Lib.hid hpb
  clear hpb
  go_upto_region 2 with (first
    | (go_at_call 19; refine cV.mono ?_; clear cV; rintro e w2 ⟨⟨g, xc, rfl, hV, hg⟩, hk2⟩; have HV2 := Lib.hid hV; have HG' := Lib.hid hg; have HK2 := Lib.hid (HK0.out.trans hk2); have HK12 := Lib.hid hk2; have HGL := Lib.hid hV.lt; clear hV hg hk2)
    | (go_at_call 20; refine (cC _ HK2.out).mono ?_; clear cC; rintro e w3 ⟨⟨T3, bl, rfl, htg, hbl, hfr⟩, hk3⟩; have HT3 := Lib.hid htg; have HBL := Lib.hid hbl; have HFR := Lib.hid hfr; have HK3 := Lib.hid (HK2.out.trans hk3); have HV3 := Lib.hid (HV2.out.kept hk3 id); have HP3 := Lib.hid (HP.out.kept (HK12.out.trans hk3) id); have HSZ := Lib.hid hk3.size; clear htg hbl hfr hk3))
  have cR := HCR.out g xc w3 HV3.out
  obtain ⟨c0, c1, c2, c3, c4, c5, c6, c7, c8⟩ := HP3.out.cs
  simp only at c0 c1 c2 c3 c4 c5 c6 c7 c8 cR
  go_wp2_with (go_at_call 24; refine cR.mono ?_; clear cR; rintro e w4 ⟨rfl, hk4⟩; have HK4 := Lib.hid (HK3.out.trans hk4); have HV4 := Lib.hid (HV3.out.kept hk4 id); have HP4 := Lib.hid (HP3.out.kept hk4 id); have HT4 := Lib.hid (HT3.out.keep hk4); have HS4 := Lib.hid (Nat.le_trans HSZ.out hk4.size); clear hk4 c0 c1 c2 c3 c4 c5 c6 c7 c8)
  clear HCR HV2 HV3 HP HP3 HT3
  have hbl := congrArg List.length HBL.out
  rw [List.length_map, List.length_map, HLN.out] at hbl
  have hown4 := HT4.out.own
  rw [hbl] at hown4
  obtain ⟨A3, c3, rfl, hM4, hB4, hC4⟩ := own_ops hown4 HT4.out.ok
  have HM4 := Lib.hid hM4
  have HC4 := Lib.hid hC4
  have HLB := Lib.hid hbl
  have HOB : Hid (∀ q ∈ bl, Cd.opOk q.o) := mem_o HBL.out HO.out
  clear hbl hown4 hM4 hB4 hC4
  go_loopw [9, 10] (fun v i wr => ∃ (k : Nat) (G : Bool), k ≤ n ∧ i = .int .i64 k ∧ v = .bool G ∧ G = knownB vs0 bl ⟨kd, t, si, t0, s0, rn, st, nn, seen⟩ k ∧ Kept (fun _ => False) w4 wr) (fun _ i _ => n - (intOf i).toNat)
  case atStart => exact ⟨0, E, Nat.zero_le _, rfl, rfl, by rw [knownB_zero]; exact HE.out.symm, Kept.refl _ _⟩
  case round =>
    obtain ⟨k, G, hk, rfl, rfl, hG, hkept⟩ := hrel
    have HKr := Lib.hid hkept
    have HG := Lib.hid hG
    have HP5 := Lib.hid (HP4.out.kept hkept id)
    clear hkept hG
    by_cases hlt : k < n
    · obtain ⟨ad, q, rfl, hq, h9, hok⟩ := (HM4.out.kept HKr.out (fun _ _ => id) (fun _ _ _ _ => id)).at_ hlt
      have HS := Lib.hid (knownB_succ (vs := vs0) (o := ⟨kd, t, si, t0, s0, rn, st, nn, seen⟩) hq)
      have c6 := h9.c6
      have c7 := h9.c7
      have d6 := HP5.out.cs.2.2.2.2.2.2.1
      have d7 := HP5.out.cs.2.2.2.2.2.2.2.1
      obtain ⟨⟨kd', t', si', t0', s0', rn', st', nn', seen'⟩, B', m', mc'⟩ := q
      simp only at c6 c7 d6 d7 HS
      have b1 : decide (k < n) = true := decide_eq_true hlt
      have b2 : decide ((k : Int) < (n : Int)) = true := decide_eq_true (by omega)
      have t1 : (0 : Int) ≤ (k : Int) := by omega
      have t2 : (k : Int) < (n : Int) := by omega
      clear hq hok h9
      go_upto_region 6 with fail
      cases G
      · by_cases h1 : st' = st
        · have e1 : (st' == st) = true := by rw [h1]; exact beq_self_eq_true _
          by_cases h2 : nn' = nn
          · have e2 : (nn' == nn) = true := by rw [h2]; exact beq_self_eq_true _
            have HN : Hid (true = knownB vs0 bl ⟨kd, t, si, t0, s0, rn, st, nn, seen⟩ (k + 1)) := by show _ = _; rw [HS.out, decide_eq_true ⟨h1, h2⟩, Bool.or_true]
            clear h1 h2
            go_quiet (fail)
            go_wp2_with fail
            go_roundw
            case rel => exact ⟨k + 1, true, by omega, by go_num, rfl, HN.out, HKr.out.drewN _⟩
            case measure => simp [intOf] <;> omega
          · have e2 : (nn' == nn) = false := beq_eq_false_iff_ne.2 h2
            have HN : Hid (false = knownB vs0 bl ⟨kd, t, si, t0, s0, rn, st, nn, seen⟩ (k + 1)) := by show _ = _; rw [HS.out, decide_eq_false (fun h => h2 h.2), Bool.or_false]; exact HG.out
            clear h1 h2
            go_quiet (fail)
            go_wp2_with fail
            go_roundw
            case rel => exact ⟨k + 1, false, by omega, by go_num, rfl, HN.out, HKr.out.drewN _⟩
            case measure => simp [intOf] <;> omega
        · have e1 : (st' == st) = false := beq_eq_false_iff_ne.2 h1
          have HN : Hid (false = knownB vs0 bl ⟨kd, t, si, t0, s0, rn, st, nn, seen⟩ (k + 1)) := by show _ = _; rw [HS.out, decide_eq_false (fun h => h1 h.1), Bool.or_false]; exact HG.out
          clear h1
          go_quiet (fail)
          go_wp2_with fail
          go_roundw
          case rel => exact ⟨k + 1, false, by omega, by go_num, rfl, HN.out, HKr.out.drewN _⟩
          case measure => simp [intOf] <;> omega
      · have HN : Hid (true = knownB vs0 bl ⟨kd, t, si, t0, s0, rn, st, nn, seen⟩ (k + 1)) := by show _ = _; rw [HS.out, ← HG.out, Bool.true_or]
        go_quiet (fail)
        go_wp2_with fail
        go_roundw
        case rel => exact ⟨k + 1, true, by omega, by go_num, rfl, HN.out, HKr.out.drewN _⟩
        case measure => simp [intOf] <;> omega
    · obtain rfl : k = n := by omega
      have b1 : decide (k < k) = false := decide_eq_false (by omega)
      have b2 : decide ((k : Int) < (k : Int)) = false := decide_eq_false (by omega)
      have HW : Hid (Cd.wt vs0 (al.map (·.o)) ⟨kd, t, si, t0, s0, rn, st, nn, seen⟩ = if G = true then bl.map (·.o) else bl.map (·.o) ++ [⟨kd, t, si, t0, s0, rn, st, nn, seen⟩]) := by
        show _ = _
        rw [← HBL.out, wt_known (al := bl) HLB.out, ← HG.out]
      have HK5 := Lib.hid (HK4.out.trans HKr.out)
      have HV5 := Lib.hid (HV4.out.kept HKr.out id)
      have HT5 := Lib.hid (HT4.out.keep HKr.out)
      have HS5 := Lib.hid (Nat.le_trans HS4.out HKr.out.size)
      generalize hws : Cd.wt vs0 (al.map (·.o)) ⟨kd, t, si, t0, s0, rn, st, nn, seen⟩ = ws at *
      have HWS := Lib.hid hws
      have HGB : Hid (w.heap.size ≤ g ∧ g < w2.heap.size) := by
        show _ ∧ _
        have h1 := HG'.out
        have h2 := HK0.out.size
        have h3 := HGL.out
        omega
      clear hws HV4 HT4 HS4 HKr
      go_upto_if 50 with fail
      go_cut [1] from 51 to 55 (fun v wx => ∃ (A7 : Option Addr) (n7 c7 : Nat) (ll : List OpS), v = .slice A7 n7 c7 ∧ RI w wx w2.heap.size g xc 7001 (.slice none 0 0) A7 n7 c7 [] ll vs0 ∧ ws = ll.map (·.o))
      case first =>
        cases G
        · have cC := HCB.out wr HK5.out
          have HWS2 := HW.out
          rw [if_neg (by simp)] at HWS2
          have HWS3 := Lib.hid HWS2
          obtain ⟨c0, c1, c2, c3, c4, c5, c6, c7, c8⟩ := HP5.out.cs
          simp only at c0 c1 c2 c3 c4 c5 c6 c7 c8 cC
          have hbn : bl.length ≤ 7000 := by have := HLB.out; omega
          clear HWS2
          have hlen := HLB.out
          go_wp2_with (first
            | (go_at_call 9; refine cC.mono ?_; clear cC; rintro e w6 ⟨⟨b', rfl, ho', hok', hf'⟩, hk6⟩; have HK6 := Lib.hid hk6; have HO6 := Lib.hid ho'; have HF6 := Lib.hid hf'; have HB6 := Lib.hid hok'; have HT6 := Lib.hid (HT5.out.keep hk6); have hM6 := one_new w6 b' hok'; have hown := HT6.out.own.alloc (opO b'); have hbs : w2.heap.size ≤ (w6.alloc (opO b')).heap.size := (by have h1 := HS5.out; have h2 := hk6.size; have h3 := ((Kept.refl (fun _ => False) w6).alloc (opO b')).size; omega); obtain ⟨⟨kd', t', si', t0', s0', rn', st', nn', seen'⟩, B', m', mc'⟩ := b'; simp only [opO] at hM6 hown hbs; clear ho' hok' hf' hk6)
            | (at_builtin; refine wpList_app_ops rfl (.tmp 51) (.tmp 54) rfl w2.heap.size _ bl rfl hown (some ⟨_, 0, none⟩) 1 1 _ rfl hM6 (fun h => by cases h) (by omega) hbs ?_; intro T7 w7 hown7 hgrow7 hat7; have hk6 : Kept (fun _ => False) w6 (w6.alloc (opO ⟨⟨kd', t', si', t0', s0', rn', st', nn', seen'⟩, B', m', mc'⟩)) := (Kept.refl _ _).alloc _; have HT7 : Hid (Tg w7 w2.heap.size T7 (bl ++ [⟨⟨kd', t', si', t0', s0', rn', st', nn', seen'⟩, B', m', mc'⟩])) := HT6.out.apps hk6 (fun q hq => by obtain rfl := List.mem_singleton.1 hq; exact HB6.out) (fun q hq h0 a ha e => by obtain rfl := List.mem_singleton.1 hq; have h1 := HF6.out a ha; have h2 := (HT5.out.own.lt _ e).2; omega) hown7 hgrow7 hat7; have hK57 := grown_kept (HK6.out.trans hk6) hgrow7; have HK57 := Lib.hid hK57; have HV7 := Lib.hid (HV5.out.kept hK57 (fun e => by have h1 := (HT5.out.own.lt _ e).1; have h2 := HGB.out.2; omega)); have HK7 := Lib.hid (HK5.out.fresh hK57 (fun q hq e => by have h1 := (HT5.out.own.lt _ e).1; have h2 := HGB.out; omega)); clear hown7 hgrow7 hat7 hk6 hK57))
          go_meet
          obtain ⟨A8, n8, c8', e8, hri⟩ := ri_start (M := 7001) HK7.out HT7.out (fun q hq a ha => by
            rcases List.mem_append.1 hq with hq | hq
            · exact HFR.out q hq a ha
            · obtain rfl := List.mem_singleton.1 hq
              have h1 := HF6.out a ha
              have h2 := HS5.out
              omega) (fun q hq => by
            rcases List.mem_append.1 hq with hq | hq
            · exact HOB.out q hq
            · obtain rfl := List.mem_singleton.1 hq
              have e := HO6.out
              simp only at e ⊢
              rw [e]
              exact HBO.out) HV7.out HVO.out (by rw [List.length_append, List.length_singleton]; omega) ⟨HGB.out.1, HGB.out.2, by have h1 := HS5.out; have h2 := HK57.out.size; omega⟩
          exact ⟨A8, n8, c8', _, e8, hri, by rw [HWS3.out, List.map_append]; exact congrArg (fun z => bl.map (·.o) ++ [z]) HO6.out.symm⟩
        · have HWS2 := HW.out
          rw [if_pos rfl] at HWS2
          have HWS3 := Lib.hid HWS2
          clear HWS2
          go_wp2_with fail
          go_meet
          obtain ⟨A8, n8, c8', e8, hri⟩ := ri_start (M := 7001) HK5.out HT5.out HFR.out HOB.out HV5.out HVO.out (by have := HLB.out; omega) ⟨HGB.out.1, HGB.out.2, HS5.out⟩
          exact ⟨A8, n8, c8', _, e8, hri, HWS3.out⟩
      case rest =>
        obtain ⟨A7, n7, c7, ll, rfl, hri, hws⟩ := hcut
        have HRI := Lib.hid hri
        have HW0 := Lib.hid hws
        clear hri hws HP4 HP5 HT5 HV5 HM4 HW HFR HOB HCB HG HBL
        generalize hB : w2.heap.size = B at *
        clear hB
        go_wp2_with fail
        go_loopw [1, 11] (fun L T wr => ∃ (T' : Value) (A : Option Addr) (n c : Nat) (tl ll : List OpS) (vs : List Int), T = T' ∧ L = .slice A n c ∧ RI w wr B g xc 7001 T' A n c tl ll vs ∧ Cd.Rf ws vs0 (tl.map (·.o)) vs (ll.map (·.o))) (fun L _ _ => lenOf L)
        case atStart => exact ⟨_, A7, n7, c7, [], ll, vs0, rfl, rfl, HRI.out, by rw [HW0.out]; exact Cd.Rf.start⟩
        case round =>
          obtain ⟨T, A, n, c, tl, ll, vs, hT, rfl, hri, hrf⟩ := hrel
          have HRF := Lib.hid hrf
          have hT2 := hT.symm
          subst hT2
          have HR := Lib.hid hri
          have hnl : ll.length = n := hri.l.1
          have HNL := Lib.hid hnl
          have hn7 : n ≤ 7001 := by have := hri.len; omega
          have en : IntKind.i64.wrap ((n : Int) - 1) = (n : Int) - 1 := IntWalk.i64_in _ ⟨by omega, by omega⟩
          clear hri HRI hnl hrf
          generalize wr = wA at *
          go_wp2_with fail
          go_loopw [12, 13, 14] (fun X Y i wr => ∃ (j : Nat) (x y : Int), j ≤ n ∧ X = .int .i64 x ∧ Y = .int .i64 y ∧ i = .int .i64 ((j : Int) - 1) ∧ Fo (Cd.odB vs) ll j x ∧ Fo (Cd.rdB vs) ll j y ∧ Kept (fun _ => False) wA wr) (fun _ _ i _ => (intOf i + 1).toNat)
          case atStart => exact ⟨n, -1, -1, Nat.le_refl _, rfl, rfl, rfl, by rw [← HNL.out]; exact Fo.end_, by rw [← HNL.out]; exact Fo.end_, Kept.refl _ _⟩
          case round =>
            obtain ⟨j, x, y, hj, rfl, rfl, rfl, hx, hy, hkept⟩ := hrel
            have HRr := Lib.hid (HR.out.keep hkept)
            have HKA := Lib.hid hkept
            have HX := Lib.hid hx
            have HY := Lib.hid hy
            clear hx hy hkept en
            obtain ⟨k, rfl⟩ | rfl : (∃ k, j = k + 1) ∨ j = 0 := by
              match j with
              | 0 => exact .inr rfl
              | k + 1 => exact .inl ⟨k, rfl⟩
            · rw [show (((k + 1 : Nat) : Int) - 1) = (k : Int) by omega]
              obtain ⟨ad, q, rfl, hq, h9, hok⟩ := HRr.out.l.at_ (show k < n by omega)
              have hop := HRr.out.ok q (List.mem_of_getElem? hq)
              have hlt0 : (q.o.st - 1).toNat < vs.length := by rw [HRr.out.vl.1]; have := hop.2.1; omega
              obtain ⟨v0, hv0⟩ : ∃ x, vs[(q.o.st - 1).toNat]? = some x := ⟨_, List.getElem?_eq_getElem hlt0⟩
              have cO := rold_any (some ⟨g, 0, none⟩) xc vs q v0 wr (HRr.out.v.nums HRr.out.vl.1) hop.2.1 hv0
              have cR := fun W (hk : Kept (fun _ => False) wr W) => rready_any (some ⟨g, 0, none⟩) xc vs q v0 W ((HRr.out.v.kept hk id).nums HRr.out.vl.1) (fun j y hj => vec_at HRr.out.vl hj) (hok.kept hk (fun _ _ => id)) (four_of hop hok) HRr.out.vl.1 hop.2.1 hv0
              have hod : Cd.odB vs q.o = decide (q.o.nn ≤ v0) := by unfold Cd.odB; rw [hv0]
              have hrd : Cd.rdB vs q.o = true ↔ Cd.rdy vs q.o v0 := Cd.rdB_iff.trans (rd_of hv0)
              have HQ := Lib.hid hq
              obtain ⟨c0, c1, c2, c3, c4, c5, c6, c7', c8⟩ := h9
              have b1 : decide ((k : Int) ≥ 0) = true := decide_eq_true (by omega)
              have b2 : decide (0 ≤ (k : Int)) = true := decide_eq_true (by omega)
              have t1 : (0 : Int) ≤ (k : Int) := by omega
              have t2 : (k : Int) < (n : Int) := by omega
              have ek : IntKind.i64.wrap ((k : Int) - 1) = (k : Int) - 1 := IntWalk.i64_in _ ⟨by omega, by omega⟩
              have HRD := Lib.hid hrd
              clear hok hop hlt0 hv0 hq hrd
              generalize hqq : q = qq at *
              obtain ⟨⟨kd', t', si', t0', s0', rn', st', nn', seen'⟩, B', m', mc'⟩ := qq
              simp only at c0 c1 c2 c3 c4 c5 c6 c7' c8
              unfold opV at cO cR
              simp only at cO cR
              by_cases ho : nn' ≤ v0
              · rw [decide_eq_true ho] at cO hod
                have cN := fun W hk => (cR W hk).mono (R' := fun e w' => e = .returned (.bool false) ∧ Kept (fun _ => False) W w') (by
                  rintro e w' ⟨⟨E, rfl, hE⟩, hk⟩
                  refine ⟨?_, hk⟩
                  cases E
                  · rfl
                  · have h1 := (hE.1 rfl).1
                    simp only at h1
                    omega)
                have HFO : Hid (Fo (Cd.odB vs) ll k (k : Int)) := Fo.yes HQ.out hod
                have HFR : Hid (Fo (Cd.rdB vs) ll k y) := HY.out.no HQ.out (by
                  cases e : Cd.rdB vs (⟨⟨kd', t', si', t0', s0', rn', st', nn', seen'⟩, B', m', mc'⟩ : OpS).o with
                  | false => rfl
                  | true => rw [Cd.rd_not_od e] at hod; cases hod)
                clear cR ho hod
                go_wp2_with (first
                  | (go_at_call 24; refine cO.mono ?_; clear cO; rintro e w8 ⟨rfl, hk8⟩; have HK8 := Lib.hid hk8; have cN2 := cN w8 hk8; have d0 := cell_kept hk8 c0 id; have d1 := cell_kept hk8 c1 id; have d2 := cell_kept hk8 c2 id; have d3 := cell_kept hk8 c3 id; have d4 := cell_kept hk8 c4 id; have d5 := cell_kept hk8 c5 id; have d6 := cell_kept hk8 c6 id; have d7 := cell_kept hk8 c7' id; have d8 := cell_kept hk8 c8 id; clear hk8 c0 c1 c2 c3 c4 c5 c6 c7' c8)
                  | (go_at_call 25; refine cN2.mono ?_; clear cN2 cN; rintro e w9 ⟨rfl, hk9⟩; have HK9 := Lib.hid ((HKA.out.trans HK8.out).trans hk9); clear hk9))
                go_roundw
                case rel => exact ⟨k, (k : Int), y, by omega, rfl, rfl, rfl, HFO.out, HFR.out, HK9.out⟩
                case measure => simp [intOf] <;> omega
              · rw [decide_eq_false ho] at cO hod
                have HFO : Hid (Fo (Cd.odB vs) ll k x) := HX.out.no HQ.out hod
                by_cases hr : Cd.rdy vs ⟨kd', t', si', t0', s0', rn', st', nn', seen'⟩ v0
                · have cN := fun W hk => (cR W hk).mono (R' := fun e w' => e = .returned (.bool true) ∧ Kept (fun _ => False) W w') (by
                    rintro e w' ⟨⟨E, rfl, hE⟩, hk⟩
                    exact ⟨by rw [hE.2 hr], hk⟩)
                  have HFR : Hid (Fo (Cd.rdB vs) ll k (k : Int)) := Fo.yes HQ.out (HRD.out.2 hr)
                  clear cR ho hod hr
                  go_wp2_with (first
                    | (go_at_call 24; refine cO.mono ?_; clear cO; rintro e w8 ⟨rfl, hk8⟩; have HK8 := Lib.hid hk8; have cN2 := cN w8 hk8; have d0 := cell_kept hk8 c0 id; have d1 := cell_kept hk8 c1 id; have d2 := cell_kept hk8 c2 id; have d3 := cell_kept hk8 c3 id; have d4 := cell_kept hk8 c4 id; have d5 := cell_kept hk8 c5 id; have d6 := cell_kept hk8 c6 id; have d7 := cell_kept hk8 c7' id; have d8 := cell_kept hk8 c8 id; clear hk8 c0 c1 c2 c3 c4 c5 c6 c7' c8)
                    | (go_at_call 25; refine cN2.mono ?_; clear cN2 cN; rintro e w9 ⟨rfl, hk9⟩; have HK9 := Lib.hid ((HKA.out.trans HK8.out).trans hk9); clear hk9))
                  go_roundw
                  case rel => exact ⟨k, x, (k : Int), by omega, rfl, rfl, rfl, HFO.out, HFR.out, HK9.out⟩
                  case measure => simp [intOf] <;> omega
                · have cN := fun W hk => (cR W hk).mono (R' := fun e w' => e = .returned (.bool false) ∧ Kept (fun _ => False) W w') (by
                    rintro e w' ⟨⟨E, rfl, hE⟩, hk⟩
                    refine ⟨?_, hk⟩
                    cases E
                    · rfl
                    · exact absurd (hE.1 rfl) hr)
                  have HFR : Hid (Fo (Cd.rdB vs) ll k y) := HY.out.no HQ.out (by
                    cases e : Cd.rdB vs (⟨⟨kd', t', si', t0', s0', rn', st', nn', seen'⟩, B', m', mc'⟩ : OpS).o with
                    | false => rfl
                    | true => exact absurd (HRD.out.1 e) hr)
                  clear cR ho hod hr
                  go_wp2_with (first
                    | (go_at_call 24; refine cO.mono ?_; clear cO; rintro e w8 ⟨rfl, hk8⟩; have HK8 := Lib.hid hk8; have cN2 := cN w8 hk8; have d0 := cell_kept hk8 c0 id; have d1 := cell_kept hk8 c1 id; have d2 := cell_kept hk8 c2 id; have d3 := cell_kept hk8 c3 id; have d4 := cell_kept hk8 c4 id; have d5 := cell_kept hk8 c5 id; have d6 := cell_kept hk8 c6 id; have d7 := cell_kept hk8 c7' id; have d8 := cell_kept hk8 c8 id; clear hk8 c0 c1 c2 c3 c4 c5 c6 c7' c8)
                    | (go_at_call 25; refine cN2.mono ?_; clear cN2 cN; rintro e w9 ⟨rfl, hk9⟩; have HK9 := Lib.hid ((HKA.out.trans HK8.out).trans hk9); clear hk9))
                  go_roundw
                  case rel => exact ⟨k, x, y, by omega, rfl, rfl, rfl, HFO.out, HFR.out, HK9.out⟩
                  case measure => simp [intOf] <;> omega
            · rw [show (((0 : Nat) : Int) - 1) = -1 from rfl]
              clear hj HKA
              rcases HX.out with ⟨rfl, hno⟩ | ⟨k, q, _, rfl, hq, hod, _⟩
              · have HNO : Hid (∀ q ∈ ll.map (·.o), Cd.odB vs q = false) := fun z hz => by
                  obtain ⟨q, hq, rfl⟩ := List.mem_map.1 hz
                  obtain ⟨i, hi, rfl⟩ := List.getElem_of_mem hq
                  exact hno i _ (Nat.zero_le _) (List.getElem?_eq_getElem hi)
                clear hno
                rcases HY.out with ⟨rfl, hnr⟩ | ⟨k, q, _, rfl, hq, hrd, hbe⟩
                · have HNR : Hid (∀ q ∈ ll.map (·.o), Cd.rdB vs q = false) := fun z hz => by
                    obtain ⟨q, hq, rfl⟩ := List.mem_map.1 hz
                    obtain ⟨i, hi, rfl⟩ := List.getElem_of_mem hq
                    exact hnr i _ (Nat.zero_le _) (List.getElem?_eq_getElem hi)
                  clear hnr
                  obtain ⟨A1, c1', hTe, hM1, _, hC1⟩ := own_ops HRr.out.tg.own HRr.out.tg.ok
                  have HM1 := Lib.hid hM1
                  have HC1 := Lib.hid hC1
                  have hTe2 := hTe
                  subst hTe2
                  clear hM1 hC1
                  go_wp2_with fail
                  go_ret3
                  have hrf := HRF.out
                  rw [← HWS.out] at hrf
                  exact ⟨⟨A1, _, c1', tl, g, xc, vs, A, n, c, ll, rfl, HM1.out, HRr.out.l, HRr.out.v.nums HRr.out.vl.1, HC1.out, HRr.out.cp, HRr.out.vl, HRr.out.ok, hrf.done HNO.out HNR.out, HRr.out.lt.1, fun h0 a ha => by have h1 := (HRr.out.lA h0 a ha).1; have h2 := HRr.out.lt; omega, fun q hq h0 a ha => by have h1 := (HRr.out.lq q hq h0 a ha).1; have h2 := HRr.out.lt; omega⟩, HRr.out.kept⟩
                · have hkn : k < n := by
                    have h1 := (List.getElem?_eq_some_iff.1 hq).1
                    have h2 := HNL.out
                    omega
                  obtain ⟨⟨ad, rfl, h9⟩, hok⟩ := HRr.out.l.2 k q hq
                  have hqm := List.mem_of_getElem? hq
                  have hop := HRr.out.ok q hqm
                  obtain ⟨x0, hx0, hr1, _⟩ := Cd.rdB_iff.1 hrd
                  obtain ⟨mm, hmm⟩ : ∃ mm, (q.o.st - 1).toNat = mm := ⟨_, rfl⟩
                  have hst : q.o.st = (mm : Int) + 1 := by have := hop.2.1; omega
                  have hm4 : mm < 4 := by have := hop.2.1; omega
                  rw [hmm] at hx0
                  have hbs := vec_at HRr.out.vl hx0
                  have hx2 : x0 + 1 ≤ 2000 := by have := hop.2.2.1; omega
                  have HRFN : Hid (Cd.Rf ws vs0 (tl.map (·.o) ++ [q.o]) (vs.set mm (x0 + 1)) (Cd.rmv (ll.map (·.o)) k)) := by
                    show Cd.Rf _ _ _ _ _
                    have h := HRF.out.ready (k := k) HNO.out (by rw [List.getElem?_map, hq]; rfl) hrd (fun j p hj hp => by
                      rw [List.getElem?_map, Option.map_eq_some_iff] at hp
                      obtain ⟨z, hz, rfl⟩ := hp
                      exact hbe j z (Nat.zero_le _) hj hz)
                    rw [Cd.up_of (by rw [hmm]; exact hx0), hmm] at h
                    exact h
                  have HQM := Lib.hid hqm
                  have HST := Lib.hid hst
                  have HX0 := Lib.hid hx0
                  have HBS := Lib.hid hbs
                  have HX2 := Lib.hid hx2
                  have HQ := Lib.hid hq
                  have b1 : decide ((k : Int) ≥ 0) = true := decide_eq_true (by omega)
                  have b2 : decide (0 ≤ (k : Int)) = true := decide_eq_true (by omega)
                  have t1 : (0 : Int) ≤ (k : Int) := by omega
                  have t2 : (k : Int) ≤ (n : Int) := by omega
                  have t3 : (k : Int) < (n : Int) := by omega
                  have hown := HRr.out.tg.own
                  have htn : tl.length ≤ 7001 := by have := HRr.out.len; omega
                  have hbs2 := HRr.out.lt.2.2
                  have hM8 := one_new wr q hok
                  have hbs3 : B ≤ (wr.alloc (opO q)).heap.size := Nat.le_trans hbs2 ((Kept.refl (fun _ => False) wr).alloc (opO q)).size
                  have hown2 := hown.alloc (opO q)
                  have HK81 : Hid (Kept (fun _ => False) wr (wr.alloc (opO q))) := (Kept.refl _ _).alloc _
                  have HTOLD : Hid (∀ (T8 : Value) (w8 : World), w8.ownsRow B 32 9 T8 (tl ++ [q]).length (flatO (tl ++ [q])) → (wr.alloc (opO q)).grownBy w8 T.ownBlock → (T8.ownBlock = T.ownBlock ∨ T8.ownBlock = some (wr.alloc (opO q)).heap.size) → RI w w8 B g xc 7002 T8 (some ad) n c (tl ++ [q]) ll vs) := fun T8 w8 h1 h2 h3 => HRr.out.told HQM.out HK81.out h1 h2 h3
                  obtain ⟨c0, c1, c2, c3, c4, c5, c6, c7', c8⟩ := h9
                  generalize hqq : q = qq at *
                  obtain ⟨⟨kd', t', si', t0', s0', rn', st', nn', seen'⟩, B', m', mc'⟩ := qq
                  simp only at c0 c1 c2 c3 c4 c5 c6 c7' c8
                  simp only [opO] at hM8 hbs3 hown2 HTOLD HK81
                  clear hok hop hqm hst hx0 hbs hx2 hq hown hbs2
                  go_upto_region 23 with (at_builtin; refine wpList_app_ops rfl (.tmp 95) (.tmp 100) rfl B T tl rfl hown2 (some ⟨_, 0, none⟩) 1 1 _ rfl hM8 (fun h => by cases h) (by omega) hbs3 ?_; intro T8 w8 hown8 hgrow8 hat8; have HR8 := Lib.hid (HTOLD.out T8 w8 hown8 hgrow8 hat8); clear hown8 hgrow8 hat8)
                  have h98 := (HR8.out.l.2 k _ HQ.out).1
                  obtain ⟨ad2, had, h98⟩ := h98
                  injection had with had
                  subst had
                  have e6 := h98.c6
                  have hst := HST.out
                  simp only at e6 hst
                  rw [hst] at e6
                  have d0 : w8.cell? ⟨g, mm, none⟩ = some (.int .i64 x0) := by
                    obtain ⟨ad3, e3, h3⟩ := (HR8.out.v.nums rfl).2 mm x0 HX0.out
                    cases e3
                    rw [addr_add, Nat.zero_add] at h3
                    exact h3
                  have f0 : w8.frozen? ⟨g, mm, none⟩ = false := HR8.out.v.free mm
                  have ew : IntKind.i64.wrap ((mm : Int) + 1 - 1) = (mm : Int) := by rw [IntWalk.i64_in _ ⟨by omega, by omega⟩]; omega
                  have hbs := HBS.out
                  have ex : IntKind.i64.wrap (x0 + 1) = x0 + 1 := IntWalk.i64_in _ ⟨by have := hbs.1; omega, by have := hbs.2; omega⟩
                  have t8 : (0 : Int) ≤ (mm : Int) := by omega
                  have t9 : (mm : Int) < (4 : Int) := by omega
                  have HR9 := Lib.hid (HR8.out.raise HX0.out HX2.out)
                  clear h98 hst hbs c0 c1 c2 c3 c4 c5 c6 c7' c8 hown2 hbs3 hM8
                  go_upto_region 24 with fail
                  clear e6 d0 f0 ew ex t8 t9
                  generalize w8.setCell ⟨g, mm, none⟩ (.int .i64 (x0 + 1)) = w9 at *
                  have hcp := HR9.out.cp.1
                  have ek : IntKind.i64.wrap ((k : Int) + 1) = (k : Int) + 1 := IntWalk.i64_in _ ⟨by omega, by omega⟩
                  have t4 : (k : Int) + 1 ≤ (n : Int) := by omega
                  have t5 : (0 : Int) ≤ (k : Int) + 1 := by omega
                  have t6 : (n : Int) ≤ (c : Int) := by omega
                  have t7 : (k : Int) ≤ (c : Int) := by omega
                  have cK := copyops_any (some ad) k c (ll.take k) w9.drew ((HR9.out.l.take_ (by omega)).kept ((Kept.refl (fun _ => False) w9).drew) (fun _ _ => id) (fun _ _ _ _ => id)) (by omega)
                  go_region_law (first
                    | (go_simp; go_at_call 20; refine cK.mono ?_; rintro e w10 ⟨⟨T10, l10, rfl, htg, hl10, hf10⟩, hk10⟩; have HT10 := Lib.hid htg; have HL10 := Lib.hid hl10; have HF10 := Lib.hid hf10; have HK10 := Lib.hid (((Kept.refl (fun _ => False) w9).drew).trans hk10); have hMd := (HR9.out.l.kept HK10.out (fun _ _ => id) (fun _ _ _ _ => id)).drop_ hcp (k + 1); have hl10n : l10.length + (n - (k + 1)) ≤ 100000 := (by have h := len_of rfl hl10; rw [List.length_map, List.length_take] at h; omega); clear htg hl10 hf10 hk10)
                    | (refine step_app_ops rfl (.tmp 116) (.tmp 120) rfl w9.drew.heap.size T10 l10 rfl HT10.out.own _ (n - (k + 1)) _ (ll.drop (k + 1)) rfl hMd (fun h => by split at h <;> cases h) hl10n HK10.out.size ?_; intro T11 w11 hown11 hgrow11 hat11; have HO11 := Lib.hid hown11; have HGR := Lib.hid hgrow11; have HAT := Lib.hid hat11; clear hown11 hgrow11 hat11))
                  all_goals
                    obtain ⟨A12, n12, c12, rfl, hri12, hn12, hmap⟩ := HR9.out.cut hkn HK10.out HT10.out HL10.out HF10.out HO11.out HGR.out HAT.out
                    have HR12 := Lib.hid hri12
                    have HRF12 := HRFN.out
                    rw [← hmap] at HRF12
                    have HRF13 := Lib.hid HRF12
                    clear hri12 hmap hMd HRF12
                    go_wp2_with fail
                    go_roundw
                    case rel => exact ⟨_, _, _, _, _, ⟨A12, n12, c12, rfl, _, _, _, HR12.out, by rw [List.map_append]; exact HRF13.out⟩, rfl, rfl, rfl, rfl, rfl⟩
                    case measure => simp [lenOf] <;> omega
              · have HQ := Lib.hid hq
                have HOD := Lib.hid hod
                have hkn : k < n := by
                  have h1 := (List.getElem?_eq_some_iff.1 hq).1
                  have h2 := HNL.out
                  omega
                have b1 : decide ((k : Int) ≥ 0) = true := decide_eq_true (by omega)
                have b2 : decide (0 ≤ (k : Int)) = true := decide_eq_true (by omega)
                clear hq hod
                obtain ⟨ad, _, rfl, _, _, _⟩ := HRr.out.l.at_ hkn
                have hcp := HRr.out.cp.1
                have t1 : (0 : Int) ≤ (k : Int) := by omega
                have t2 : (k : Int) ≤ (n : Int) := by omega
                have t3 : (k : Int) < (n : Int) := by omega
                have ek : IntKind.i64.wrap ((k : Int) + 1) = (k : Int) + 1 := IntWalk.i64_in _ ⟨by omega, by omega⟩
                have t4 : (k : Int) + 1 ≤ (n : Int) := by omega
                have t5 : (0 : Int) ≤ (k : Int) + 1 := by omega
                have t6 : (n : Int) ≤ (c : Int) := by omega
                have t7 : (k : Int) ≤ (c : Int) := by omega
                go_upto_region 20 with fail
                have cK := copyops_any (some ad) k c (ll.take k) wr.drew ((HRr.out.l.take_ (by omega)).kept ((Kept.refl (fun _ => False) wr).drew) (fun _ _ => id) (fun _ _ _ _ => id)) (by omega)
                go_region_law (first
                  | (go_simp; go_at_call 20; refine cK.mono ?_; rintro e w10 ⟨⟨T10, l10, rfl, htg, hl10, hf10⟩, hk10⟩; have HT10 := Lib.hid htg; have HL10 := Lib.hid hl10; have HF10 := Lib.hid hf10; have HK10 := Lib.hid (((Kept.refl (fun _ => False) wr).drew).trans hk10); have hMd := (HRr.out.l.kept HK10.out (fun _ _ => id) (fun _ _ _ _ => id)).drop_ hcp (k + 1); have hl10n : l10.length + (n - (k + 1)) ≤ 100000 := (by have h := len_of rfl hl10; rw [List.length_map, List.length_take] at h; omega); clear htg hl10 hf10 hk10)
                  | (refine step_app_ops rfl (.tmp 86) (.tmp 90) rfl wr.drew.heap.size T10 l10 rfl HT10.out.own _ (n - (k + 1)) _ (ll.drop (k + 1)) rfl hMd (fun h => by split at h <;> cases h) hl10n HK10.out.size ?_; intro T11 w11 hown11 hgrow11 hat11; have HO11 := Lib.hid hown11; have HGR := Lib.hid hgrow11; have HAT := Lib.hid hat11; clear hown11 hgrow11 hat11))
                all_goals
                  obtain ⟨A12, n12, c12, rfl, hri12, hn12, hmap⟩ := HRr.out.cut hkn HK10.out HT10.out HL10.out HF10.out HO11.out HGR.out HAT.out
                  have HR12 := Lib.hid (hri12.weak (M' := 7001) (by omega))
                  have HRF12 : Hid (Cd.Rf ws vs0 (tl.map (·.o)) vs ((l10 ++ ll.drop (k + 1)).map (·.o))) := by
                    show Cd.Rf _ _ _ _ _
                    rw [hmap]
                    exact HRF.out.old (by rw [List.getElem?_map, HQ.out]; rfl) HOD.out
                  clear hri12 hmap hMd
                  go_wp2_with fail
                  go_roundw
                  case rel => exact ⟨_, _, _, _, _, ⟨A12, n12, c12, rfl, tl, _, vs, HR12.out, HRF12.out⟩, rfl, rfl, rfl, rfl, rfl⟩
                  case measure => simp [lenOf] <;> omega
end Go.Proofs.YtpgicfbaefcbmaaDoor
