/-
  HISTORY: a history in memory; patches in memory; the small ones; a node's place.
-/
import Derived.Test.YthbfmdnibijapaaDoorUnB
import Derived.Test.YthbfmdnibijapaaDoorHiM
import Derived.Test.YthbfmdnibijapaaDoorPtN
set_option linter.unusedVariables false
namespace Go.Proofs.YthbfmdnibijapaaDoor
open Go Go.RowKit

/-- A patch. -/
structure PatS where
  pat : Int
  del : Int
  ins : ByteArray
def bt (a b : ByteArray) : PatS := ⟨(Rw.bat (rs a) (rs b) : Nat), (Rw.bdel (rs a) (rs b) : Nat), runesBytes (Rw.bins (rs a) (rs b))⟩
def PatS.vs (p : PatS) : List Value := [.int .i64 p.pat, .int .i64 p.del, .string p.ins]
abbrev pV (p : PatS) : Value := .agg #[.int .i64 p.pat, .int .i64 p.del, .string p.ins]
theorem bt_btw (a b : ByteArray) : btw (rs a) (rs b) = pV (bt a b) := rfl
/-- A link's value: down, up. -/
abbrev lnkV (d u : PatS) : Value := .agg #[.int .i64 d.pat, .int .i64 d.del, .string d.ins, .int .i64 u.pat, .int .i64 u.del, .string u.ins]
theorem lnk_build (d u : PatS) (w : World) : (Instr.build 81 #[(0, pV d), (1, pV u)]).run Tryd.prog w = .ok (lnkV d u) w := by kernel_rfl
theorem lnk_down (d u : PatS) (w : World) : (Instr.field 81 (lnkV d u) 0).run Tryd.prog w = .ok (pV d) w := by kernel_rfl
theorem lnk_up (d u : PatS) (w : World) : (Instr.field 81 (lnkV d u) 1).run Tryd.prog w = .ok (pV u) w := by kernel_rfl
theorem info_pat : (Tryd.prog.info? 79).map (fun i => (i.zero, i.size, i.bytes)) = some (some (.agg #[.int .i64 0, .int .i64 0, .string ⟨#[]⟩]), 3, 32) := by kernel_rfl
/-- A patch's cells. -/
structure Pt3 (w : World) (ad : Addr) (p : PatS) : Prop where
  c0 : w.cell? ad = some (.int .i64 p.pat)
  c1 : w.cell? ⟨ad.block, ad.off + 1, none⟩ = some (.int .i64 p.del)
  c2 : w.cell? ⟨ad.block, ad.off + 2, none⟩ = some (.string p.ins)
theorem Pt3.kept {S : Nat → Prop} {w w' : World} {ad : Addr} {p : PatS} (h : Pt3 w ad p) (hk : Kept S w w') (hs : ¬ S ad.block) : Pt3 w' ad p := ⟨cell_kept hk h.c0 hs, cell_kept hk h.c1 hs, cell_kept hk h.c2 hs⟩
/-- A slice of patches. -/
structure Ps (w : World) (A : Option Addr) (n : Nat) (L : List PatS) : Prop where
  len : L.length = n
  at' : ∀ k p, L[k]? = some p → ∃ ad, A = some ad ∧ Pt3 w (ad.add (k * 3)) p
theorem Ps.kept {S : Nat → Prop} {w w' : World} {A : Option Addr} {n : Nat} {L : List PatS} (h : Ps w A n L) (hk : Kept S w w') (hs : ∀ a, A = some a → ¬ S a.block) : Ps w' A n L :=
  ⟨h.len, fun k p hp => by
    obtain ⟨ad, ea, h4⟩ := h.at' k p hp
    exact ⟨ad, ea, h4.kept hk (by rw [show (ad.add (k * 3)).block = ad.block by unfold Addr.add; split <;> rfl]; exact hs ad ea)⟩⟩
theorem Ps.at_ {w : World} {A : Option Addr} {n : Nat} {L : List PatS} (h : Ps w A n L) {k : Nat} (hk : k < n) : ∃ ad p, A = some ad ∧ L[k]? = some p ∧ Pt3 w (ad.add (k * 3)) p := by
  have hl : k < L.length := by rw [h.len]; exact hk
  obtain ⟨ad, ea, h4⟩ := h.at' k L[k] (List.getElem?_eq_getElem hl)
  exact ⟨ad, L[k], ea, List.getElem?_eq_getElem hl, h4⟩
def flatP (L : List PatS) : List Value := L.flatMap PatS.vs
theorem flatP_app (a b : List PatS) : flatP (a ++ b) = flatP a ++ flatP b := by simp [flatP]
theorem flatP_one (e : PatS) : flatP [e] = e.vs := by simp [flatP]
theorem flatP_len : ∀ L : List PatS, (flatP L).length = L.length * 3
  | [] => rfl
  | e :: L => by
    have := flatP_len L
    unfold flatP at *
    rw [List.flatMap_cons, List.length_append, this, List.length_cons]
    simp [PatS.vs]
    omega
theorem flatP_get : ∀ {L : List PatS} {i f : Nat} {e : PatS} {u : Value}, L[i]? = some e → e.vs[f]? = some u → (flatP L)[i * 3 + f]? = some u
  | [], i, f, e, u, h, _ => by simp at h
  | q :: L, 0, f, e, u, h, hf => by
    simp only [List.getElem?_cons_zero, Option.some.injEq] at h
    subst h
    unfold flatP
    have hl : f < q.vs.length := by
      by_cases hl : f < q.vs.length
      · exact hl
      · rw [List.getElem?_eq_none (by omega)] at hf; cases hf
    rw [List.flatMap_cons, List.getElem?_append_left (by omega)]
    simpa using hf
  | q :: L, i + 1, f, e, u, h, hf => by
    have ih := flatP_get (L := L) (i := i) (by simpa using h) hf
    unfold flatP at *
    have hl : q.vs.length = 3 := rfl
    rw [List.flatMap_cons, List.getElem?_append_right (by omega), hl, show (i + 1) * 3 + f - 3 = i * 3 + f by omega]
    exact ih
theorem three_one {e : PatS} : ∀ u ∈ e.vs, u.oneCell' = true := by
  intro u hu
  simp only [PatS.vs, List.mem_cons, List.not_mem_nil, or_false] at hu
  rcases hu with rfl | rfl | rfl <;> rfl
theorem flatP_one' {L : List PatS} : ∀ u ∈ flatP L, u.oneCell' = true := by
  intro u hu
  obtain ⟨e, he, hu⟩ := List.mem_flatMap.1 hu
  exact three_one u hu
theorem three_cells {W : World} {e : PatS} {ty : TypeId} : ∀ j u, e.vs[j]? = some u → (W.alloc (.cells #[.int .i64 e.pat, .int .i64 e.del, .string e.ins] ty)).cell? ((⟨W.heap.size, 0, none⟩ : Addr).add j) = some u := by
  intro j u hj
  rw [addr_add, cell_of_row _ _ _ _ _ _ (heap_alloc_new W _)]
  match j, hj with
  | 0, hj => simpa [PatS.vs] using hj
  | 1, hj => simpa [PatS.vs] using hj
  | 2, hj => simpa [PatS.vs] using hj
/-- What a call tells of patches, its own. -/
def Op3 (w : World) (B : Nat) (v : Value) (L : List PatS) : Prop := w.ownsRow B 79 3 v L.length (flatP L)
theorem Op3.keptS {S : Nat → Prop} {w w' : World} {B : Nat} {v : Value} {L : List PatS} (h : Op3 w B v L) (hk : Kept S w w') (hs : ∀ k, B ≤ k → ¬ S k) : Op3 w' B v L := by
  refine ⟨h.1, ?_⟩
  rcases h.2 with hn | ⟨g, cap, cur, e, hb, hg, rest⟩
  · exact .inl hn
  · exact .inr ⟨g, cap, cur, e, hb, (hk.block g (heap_lt hg) (hs g hb)).trans hg, rest⟩
theorem Op3.kept {w w' : World} {B : Nat} {v : Value} {L : List PatS} (h : Op3 w B v L) (hk : Kept (fun _ => False) w w') : Op3 w' B v L := h.keptS hk (fun _ _ => id)
theorem Op3.lt {w : World} {B : Nat} {v : Value} {L : List PatS} (h : Op3 w B v L) : ∀ k, v.ownBlock = some k → B ≤ k ∧ k < w.heap.size := fun k hk => World.ownsRow.lt h k hk
theorem op3_nil (w : World) (B : Nat) : Op3 w B (.slice none 0 0) [] := World.ownsRow_nil _ _ _ _
theorem Op3.ps {w : World} {B : Nat} {v : Value} {L : List PatS} (h : Op3 w B v L) : ∃ A c, v = .slice A L.length c ∧ Ps w A L.length L ∧ L.length ≤ c ∧ (A = none → L.length = 0 ∧ c = 0) ∧ ∀ a, A = some a → B ≤ a.block := by
  rcases id h.2 with ⟨rfl, hl⟩ | ⟨g, cap, cur, rfl, hb, hh, hcap, _, _, _⟩
  · obtain rfl := List.eq_nil_of_length_eq_zero hl
    exact ⟨none, 0, rfl, ⟨rfl, fun k r h => by simp at h⟩, Nat.le_refl _, fun _ => ⟨rfl, rfl⟩, fun a h => by cases h⟩
  · refine ⟨_, cap, rfl, ⟨rfl, fun k e he => ⟨_, rfl, ?_⟩⟩, hcap, (fun h => by cases h), fun a ha => by injection ha with ha; subst ha; exact hb⟩
    have hcells : ∀ j u, (flatP L)[j]? = some u → w.cell? ((⟨g, 0, none⟩ : Addr).add j) = some u := World.ownsRow.cells h rfl
    have g0 := hcells (k * 3 + 0) _ (flatP_get he (f := 0) rfl)
    have g1 := hcells (k * 3 + 1) _ (flatP_get he (f := 1) rfl)
    have g2 := hcells (k * 3 + 2) _ (flatP_get he (f := 2) rfl)
    rw [addr_add] at g0 g1 g2
    have e : (⟨g, 0, none⟩ : Addr).add (k * 3) = ⟨g, k * 3, none⟩ := by rw [addr_add, Nat.zero_add]
    rw [e]
    exact ⟨by simpa using g0, by simpa using g1, by simpa using g2⟩

theorem add64_any (a : Addr) (x y : Int) (w : World) (hc : w.cell? a = some (.int .i64 x)) (hf : w.frozen? a = false) (h0 : -1000000000000000000 ≤ x) (h1 : x ≤ 2000000000000000000) (h2 : -1000000000000000000 ≤ y) (h3 : y ≤ 1000000000000000000) :
    Calls Tryd.prog 61 #[.pointer (some a), .int .i64 y] w fun e w' => e = .returned (.int .i64 (x + y)) ∧ w' = w.setCell a (.int .i64 (x + y)) := by
  have hadd := run_call_add (P := Tryd.prog) Tryd.func72 (by kernel_rfl) (by kernel_rfl) (by kernel_rfl) .i64 (by kernel_rfl) (x := x) (y := y) (s := x + y) hc hf (by
    have x1 : IntKind.i64.wrap (x + y) = x + y := IntWalk.i64_in _ (by omega)
    simp [go_sem, x1])
  clear hc hf
  go_enter Tryd.func61, Tryd.ntmps61
  go_wp2
  go_ret
  exact ⟨rfl, rfl⟩
theorem load64_any (a : Addr) (x : Int) (w : World) (hc : w.cell? a = some (.int .i64 x)) :
    Calls Tryd.prog 41 #[.pointer (some a)] w fun e w' => e = .returned (.int .i64 x) ∧ w' = w := by
  have hload := run_call_load (P := Tryd.prog) Tryd.func58 (by kernel_rfl) (by kernel_rfl) (by kernel_rfl) .i64 (by kernel_rfl) (x := x) hc
  clear hc
  go_enter Tryd.func41, Tryd.ntmps41
  go_wp2
  go_ret
  exact ⟨rfl, rfl⟩

/-- A history's block. -/
abbrev histO (most : Int) (nv : Value) (cur : Int) (mb : Nat) (s : ByteArray) (k : Int) : Obj := .cells #[.int .i64 most, nv, .int .i64 cur, .map (some mb), .string s, .int .i64 k] 71
theorem hist_facts {W : World} {hb mb : Nat} {most cur k : Int} {nv : Value} {s : ByteArray} (h : W.heap[hb]? = some (histO most nv cur mb s k)) :
    W.cell? ⟨hb, 0, none⟩ = some (.int .i64 most) ∧ W.cell? ⟨hb, 1, none⟩ = some nv ∧ W.cell? ⟨hb, 2, none⟩ = some (.int .i64 cur) ∧ W.cell? ⟨hb, 3, none⟩ = some (.map (some mb)) ∧ W.cell? ⟨hb, 4, none⟩ = some (.string s) ∧ W.cell? ⟨hb, 5, none⟩ = some (.int .i64 k) :=
  ⟨cell_of_row _ _ _ _ _ _ h, cell_of_row _ _ _ _ _ _ h, cell_of_row _ _ _ _ _ _ h, cell_of_row _ _ _ _ _ _ h, cell_of_row _ _ _ _ _ _ h, cell_of_row _ _ _ _ _ _ h⟩
theorem hhere_any (hb mb : Nat) (most cur k : Int) (nv : Value) (s : ByteArray) (w : World) (h : w.heap[hb]? = some (histO most nv cur mb s k)) :
    Calls Tryd.prog 20 #[.pointer (some ⟨hb, 0, none⟩)] w fun e w' => e = .returned (.string s) ∧ w' = w := by
  obtain ⟨_, _, _, _, f4, _⟩ := hist_facts h
  clear h
  go_enter Tryd.func20, Tryd.ntmps20
  go_wp2
  go_ret
  exact ⟨rfl, rfl⟩
theorem hpatches_any (hb mb : Nat) (most cur k : Int) (nv : Value) (s : ByteArray) (w : World) (h : w.heap[hb]? = some (histO most nv cur mb s k)) (hk : 0 ≤ k ∧ k ≤ 1000000000000000000) :
    Calls Tryd.prog 22 #[.pointer (some ⟨hb, 0, none⟩)] w fun e w' => e = .returned (.int .i64 k) ∧ w' = w := by
  obtain ⟨_, _, _, _, _, f5⟩ := hist_facts h
  have cL := load64_any ⟨hb, 5, none⟩ k w f5
  clear h
  go_enter Tryd.func22, Tryd.ntmps22
  go_wp2_with (go_at_call 41; refine cL.mono ?_; rintro e w' ⟨rfl, rfl⟩)
  go_ret
  exact ⟨rfl, rfl⟩

theorem idx_first {L : List NodeS} {m : Nat} {y : NodeS} {z : Int} (h : L[m]? = some y) (hz : y.sq = z) (hf : ∀ (j : Nat) (b : NodeS), j < m → L[j]? = some b → b.sq ≠ z) : idx L z = (m : Nat) := by
  unfold idx
  have e : L.findIdx? (fun e => decide (e.sq = z)) = some m := by
    rw [List.findIdx?_eq_some_iff_getElem]
    obtain ⟨hl, he⟩ := List.getElem?_eq_some_iff.1 h
    refine ⟨hl, by rw [he]; simpa using hz, fun j hj => ?_⟩
    have h2 := hf j _ hj (List.getElem?_eq_getElem (Nat.lt_trans hj hl))
    simpa using h2
  rw [e]
theorem hsame_any (e : NodeS) (sb : Nat) (q : Int) (w : World) (hq : w.cell? ⟨sb, 0, none⟩ = some (.int .i64 q)) : Calls Tryd.prog 57 #[nodeV e, .pointer (some ⟨sb, 0, none⟩)] w fun e' w' => e' = .returned (.bool (e.sq == q)) ∧ Kept (fun _ => False) w w' := by
  have hK0 : Hid (Kept (fun _ => False) w (w.alloc (nodeO e))) := (Kept.refl _ w).alloc _
  have hq2 : (w.alloc (nodeO e)).cell? ⟨sb, 0, none⟩ = some (.int .i64 q) := cell_kept hK0.out hq id
  go_enter Tryd.func57, Tryd.ntmps57
  go_wp2_with fail
  go_ret
  exact ⟨rfl, hK0.out⟩
set_option maxRecDepth 100000 in
set_option maxHeartbeats 4000000 in
theorem hindex_any (A : Option Addr) (n c : Nat) (L : List NodeS) (sb : Nat) (q : Int) (w : World) (hA : Ng w A n L) (hn : n ≤ 100000) (hq : w.cell? ⟨sb, 0, none⟩ = some (.int .i64 q)) :
    Calls Tryd.prog 56 #[.slice A n c, .func (.func 57) #[] #[.pointer (some ⟨sb, 0, none⟩)]] w fun e w' => e = .returned (.int .i64 (idx L q)) ∧ Kept (fun _ => False) w w' := by
  have HA := Lib.hid hA
  have HQ := Lib.hid hq
  have HLN : Hid (L.length = n) := hA.len
  obtain ⟨C, hC⟩ : ∃ C, idx L q = C := ⟨_, rfl⟩
  rw [hC]
  have HC := Lib.hid hC
  clear hA hq hC
  go_enter Tryd.func56, Tryd.ntmps56
  go_wp2_with fail
  go_loopw [8] (fun v wr => ∃ k : Nat, k ≤ n ∧ v = .int .i64 k ∧ (∀ (j : Nat) (b : NodeS), j < k → L[j]? = some b → b.sq ≠ q) ∧ Kept (fun _ => False) w wr) (fun v _ => n - (intOf v).toNat)
  case atStart => exact ⟨0, Nat.zero_le _, rfl, (fun j b hj => absurd hj (Nat.not_lt_zero _)), Kept.refl _ _⟩
  case round =>
    obtain ⟨k, hk, rfl, hat, hkept⟩ := hrel
    have HK := Lib.hid hkept
    have HAT := Lib.hid hat
    clear hkept hat
    by_cases hlt : k < n
    · obtain ⟨ad, b, rfl, hb, h4⟩ := (HA.out.kept HK.out (fun _ _ => id)).at_ hlt
      have cR := hsame_any b sb q wr (cell_kept HK.out HQ.out id)
      have HB := Lib.hid hb
      obtain ⟨c0, c1, c2, c3⟩ := h4
      obtain ⟨x0, x1, x2, x3⟩ := b
      simp only at c0 c1 c2 c3 cR
      have b1 : decide (k < n) = true := decide_eq_true hlt
      have b2 : decide ((k : Int) < (n : Int)) = true := decide_eq_true (by omega)
      have t1 : (0 : Int) ≤ (k : Int) := by omega
      have t2 : (k : Int) < (n : Int) := by omega
      clear hb
      by_cases hr : x0 = q
      · have hv : (x0 == q) = true := by simp [hr]
        rw [hv] at cR
        have HV : Hid (C = (k : Int)) := by
          show _ = _
          rw [← HC.out]
          exact idx_first HB.out hr HAT.out
        clear hr hv
        go_wp2_with (go_at_call 57; refine cR.mono ?_; rintro e w2 ⟨rfl, hk2⟩; have HK2 := Lib.hid (HK.out.trans hk2); clear hk2 cR)
        go_ret
        exact ⟨by rw [HV.out]; rfl, HK2.out⟩
      · have hv : (x0 == q) = false := by rw [beq_eq_false_iff_ne]; exact hr
        rw [hv] at cR
        have HR : Hid (∀ (j : Nat) (b : NodeS), j < k + 1 → L[j]? = some b → b.sq ≠ q) := fun j b hj hb => by
          by_cases e : j = k
          · subst e
            rw [HB.out] at hb
            injection hb with hb
            subst hb
            exact hr
          · exact HAT.out j b (by omega) hb
        clear hr hv
        go_wp2_with (go_at_call 57; refine cR.mono ?_; rintro e w2 ⟨rfl, hk2⟩; have HK2 := Lib.hid (HK.out.trans hk2); clear hk2 cR)
        go_roundw
        case rel => exact ⟨k + 1, by omega, by go_num, HR.out, HK2.out⟩
        case measure => simp [intOf] <;> omega
    · obtain rfl : k = n := by omega
      have b1 : decide (k < k) = false := decide_eq_false (by omega)
      have b2 : decide ((k : Int) < (k : Int)) = false := decide_eq_false (by omega)
      have HV : Hid (C = -1) := by
        show _ = _
        rw [← HC.out]
        refine idx_miss (fun x hx h => ?_)
        obtain ⟨j, hj, rfl⟩ := List.getElem_of_mem hx
        exact HAT.out j _ (by have := HLN.out; omega) (List.getElem?_eq_getElem hj) h
      go_wp2_with fail
      go_ret
      exact ⟨by rw [HV.out]; rfl, HK.out⟩
set_option maxRecDepth 100000 in
theorem hfind_any (A : Option Addr) (n c : Nat) (L : List NodeS) (cur z : Int) (w : World) (hA : Ng w A n L) (hn : n ≤ 100000) :
    Calls Tryd.prog 40 #[treeV (.slice A n c) cur, .int .i64 z] w fun e w' => e = .returned (.int .i64 (idx L z)) ∧ Kept (fun _ => False) w w' := by
  have hk0 : Kept (fun _ => False) w ((w.alloc (treeO (.slice A n c) cur)).alloc (.cells #[.int .i64 z] 3)) := ((Kept.refl _ w).alloc _).alloc _
  have cI := hindex_any A n c L (w.heap.size + 1) z _ (hA.kept hk0 (fun _ _ => id)) hn (cell_of_row _ _ _ _ _ _ (heap_two2 w _ _))
  have t0 := (tree_facts (heap_two1 w (treeO (.slice A n c) cur) (.cells #[.int .i64 z] 3))).1
  have HK0 := Lib.hid hk0
  obtain ⟨C, hC⟩ : ∃ C, idx L z = C := ⟨_, rfl⟩
  rw [hC] at cI ⊢
  clear hk0 hA hC
  go_enter Tryd.func40, Tryd.ntmps40
  go_upto_region 1 with fail
  simp only [treeO] at cI HK0 t0
  generalize (w.alloc _).alloc _ = w0 at *
  go_wp2_with (go_at_call 56; refine cI.mono ?_; rintro e w1 ⟨rfl, hk1⟩; have HK1 := Lib.hid (HK0.out.trans hk1); clear hk1 cI)
  go_ret
  exact ⟨rfl, HK1.out⟩
end Go.Proofs.YthbfmdnibijapaaDoor
