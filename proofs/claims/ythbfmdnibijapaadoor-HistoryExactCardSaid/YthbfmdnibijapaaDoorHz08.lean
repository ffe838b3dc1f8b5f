/-
  HISTORY: a history in memory; patches in memory; the small ones; a node's place.
  TREES: what text it stands at; a tree of one text.
  HISTORY: a node's parent; patches applied; patches appended.
-/
import Derived.Test.YthbfmdnibijapaaDoorHz04
import Derived.Test.YthbfmdnibijapaaDoorHz07
import Derived.BigQuiet
set_option linter.unusedVariables false
namespace Go.Proofs.YthbfmdnibijapaaDoor
open Go Go.RowKit

/-- A patch. -/
structure PatS where
  pat : Int
  del : Int
  ins : ByteArray
def bt (a b : ByteArray) : PatS := ⟨(Rw.bat (rs a) (rs b) : Nat), (Rw.bdel (rs a) (rs b) : Nat), runesBytes (Rw.bins (rs a) (rs b))⟩
def PatS.vs (p : PatS) : List Value := [.int .i64 p.pat, .int .i64 p.del, .string p.ins]
abbrev pV (p : PatS) : Value := .agg #[.int .i64 p.pat, .int .i64 p.del, .string p.ins]
theorem bt_btw (a b : ByteArray) : btw (rs a) (rs b) = pV (bt a b) := rfl
/-- A link's value: down, up. -/
abbrev lnkV (d u : PatS) : Value := .agg #[.int .i64 d.pat, .int .i64 d.del, .string d.ins, .int .i64 u.pat, .int .i64 u.del, .string u.ins]
theorem lnk_build (d u : PatS) (w : World) : (Instr.build 81 #[(0, pV d), (1, pV u)]).run Tryd.prog w = .ok (lnkV d u) w := by kernel_rfl
theorem lnk_down (d u : PatS) (w : World) : (Instr.field 81 (lnkV d u) 0).run Tryd.prog w = .ok (pV d) w := by kernel_rfl
theorem lnk_up (d u : PatS) (w : World) : (Instr.field 81 (lnkV d u) 1).run Tryd.prog w = .ok (pV u) w := by kernel_rfl
theorem info_pat : (Tryd.prog.info? 79).map (fun i => (i.zero, i.size, i.bytes)) = some (some (.agg #[.int .i64 0, .int .i64 0, .string ⟨#[]⟩]), 3, 32) := by kernel_rfl
/-- A patch's cells. -/
structure Pt3 (w : World) (ad : Addr) (p : PatS) : Prop where
  c0 : w.cell? ad = some (.int .i64 p.pat)
  c1 : w.cell? ⟨ad.block, ad.off + 1, none⟩ = some (.int .i64 p.del)
  c2 : w.cell? ⟨ad.block, ad.off + 2, none⟩ = some (.string p.ins)
theorem Pt3.kept {S : Nat → Prop} {w w' : World} {ad : Addr} {p : PatS} (h : Pt3 w ad p) (hk : Kept S w w') (hs : ¬ S ad.block) : Pt3 w' ad p := ⟨cell_kept hk h.c0 hs, cell_kept hk h.c1 hs, cell_kept hk h.c2 hs⟩
/-- A slice of patches. -/
structure Ps (w : World) (A : Option Addr) (n : Nat) (L : List PatS) : Prop where
  len : L.length = n
  at' : ∀ k p, L[k]? = some p → ∃ ad, A = some ad ∧ Pt3 w (ad.add (k * 3)) p
theorem Ps.kept {S : Nat → Prop} {w w' : World} {A : Option Addr} {n : Nat} {L : List PatS} (h : Ps w A n L) (hk : Kept S w w') (hs : ∀ a, A = some a → ¬ S a.block) : Ps w' A n L :=
  ⟨h.len, fun k p hp => by
    obtain ⟨ad, ea, h4⟩ := h.at' k p hp
    exact ⟨ad, ea, h4.kept hk (by rw [show (ad.add (k * 3)).block = ad.block by unfold Addr.add; split <;> rfl]; exact hs ad ea)⟩⟩
theorem Ps.at_ {w : World} {A : Option Addr} {n : Nat} {L : List PatS} (h : Ps w A n L) {k : Nat} (hk : k < n) : ∃ ad p, A = some ad ∧ L[k]? = some p ∧ Pt3 w (ad.add (k * 3)) p := by
  have hl : k < L.length := by rw [h.len]; exact hk
  obtain ⟨ad, ea, h4⟩ := h.at' k L[k] (List.getElem?_eq_getElem hl)
  exact ⟨ad, L[k], ea, List.getElem?_eq_getElem hl, h4⟩
def flatP (L : List PatS) : List Value := L.flatMap PatS.vs
theorem flatP_app (a b : List PatS) : flatP (a ++ b) = flatP a ++ flatP b := by simp [flatP]
theorem flatP_one (e : PatS) : flatP [e] = e.vs := by simp [flatP]
theorem flatP_len : ∀ L : List PatS, (flatP L).length = L.length * 3
  | [] => rfl
  | e :: L => by
    have := flatP_len L
    unfold flatP at *
    rw [List.flatMap_cons, List.length_append, this, List.length_cons]
    simp [PatS.vs]
    omega
theorem flatP_get : ∀ {L : List PatS} {i f : Nat} {e : PatS} {u : Value}, L[i]? = some e → e.vs[f]? = some u → (flatP L)[i * 3 + f]? = some u
  | [], i, f, e, u, h, _ => by simp at h
  | q :: L, 0, f, e, u, h, hf => by
    simp only [List.getElem?_cons_zero, Option.some.injEq] at h
    subst h
    unfold flatP
    have hl : f < q.vs.length := by
      by_cases hl : f < q.vs.length
      · exact hl
      · rw [List.getElem?_eq_none (by omega)] at hf; cases hf
    rw [List.flatMap_cons, List.getElem?_append_left (by omega)]
    simpa using hf
  | q :: L, i + 1, f, e, u, h, hf => by
    have ih := flatP_get (L := L) (i := i) (by simpa using h) hf
    unfold flatP at *
    have hl : q.vs.length = 3 := rfl
    rw [List.flatMap_cons, List.getElem?_append_right (by omega), hl, show (i + 1) * 3 + f - 3 = i * 3 + f by omega]
    exact ih
theorem three_one {e : PatS} : ∀ u ∈ e.vs, u.oneCell' = true := by
  intro u hu
  simp only [PatS.vs, List.mem_cons, List.not_mem_nil, or_false] at hu
  rcases hu with rfl | rfl | rfl <;> rfl
theorem flatP_one' {L : List PatS} : ∀ u ∈ flatP L, u.oneCell' = true := by
  intro u hu
  obtain ⟨e, he, hu⟩ := List.mem_flatMap.1 hu
  exact three_one u hu
theorem three_cells {W : World} {e : PatS} {ty : TypeId} : ∀ j u, e.vs[j]? = some u → (W.alloc (.cells #[.int .i64 e.pat, .int .i64 e.del, .string e.ins] ty)).cell? ((⟨W.heap.size, 0, none⟩ : Addr).add j) = some u := by
  intro j u hj
  rw [addr_add, cell_of_row _ _ _ _ _ _ (heap_alloc_new W _)]
  match j, hj with
  | 0, hj => simpa [PatS.vs] using hj
  | 1, hj => simpa [PatS.vs] using hj
  | 2, hj => simpa [PatS.vs] using hj
/-- What a call tells of patches, its own. -/
def Op3 (w : World) (B : Nat) (v : Value) (L : List PatS) : Prop := w.ownsRow B 79 3 v L.length (flatP L)
theorem Op3.keptS {S : Nat → Prop} {w w' : World} {B : Nat} {v : Value} {L : List PatS} (h : Op3 w B v L) (hk : Kept S w w') (hs : ∀ k, B ≤ k → ¬ S k) : Op3 w' B v L := by
  refine ⟨h.1, ?_⟩
  rcases h.2 with hn | ⟨g, cap, cur, e, hb, hg, rest⟩
  · exact .inl hn
  · exact .inr ⟨g, cap, cur, e, hb, (hk.block g (heap_lt hg) (hs g hb)).trans hg, rest⟩
theorem Op3.kept {w w' : World} {B : Nat} {v : Value} {L : List PatS} (h : Op3 w B v L) (hk : Kept (fun _ => False) w w') : Op3 w' B v L := h.keptS hk (fun _ _ => id)
theorem Op3.lt {w : World} {B : Nat} {v : Value} {L : List PatS} (h : Op3 w B v L) : ∀ k, v.ownBlock = some k → B ≤ k ∧ k < w.heap.size := fun k hk => World.ownsRow.lt h k hk
theorem op3_nil (w : World) (B : Nat) : Op3 w B (.slice none 0 0) [] := World.ownsRow_nil _ _ _ _
theorem Op3.ps {w : World} {B : Nat} {v : Value} {L : List PatS} (h : Op3 w B v L) : ∃ A c, v = .slice A L.length c ∧ Ps w A L.length L ∧ L.length ≤ c ∧ (A = none → L.length = 0 ∧ c = 0) ∧ ∀ a, A = some a → B ≤ a.block := by
  rcases id h.2 with ⟨rfl, hl⟩ | ⟨g, cap, cur, rfl, hb, hh, hcap, _, _, _⟩
  · obtain rfl := List.eq_nil_of_length_eq_zero hl
    exact ⟨none, 0, rfl, ⟨rfl, fun k r h => by simp at h⟩, Nat.le_refl _, fun _ => ⟨rfl, rfl⟩, fun a h => by cases h⟩
  · refine ⟨_, cap, rfl, ⟨rfl, fun k e he => ⟨_, rfl, ?_⟩⟩, hcap, (fun h => by cases h), fun a ha => by injection ha with ha; subst ha; exact hb⟩
    have hcells : ∀ j u, (flatP L)[j]? = some u → w.cell? ((⟨g, 0, none⟩ : Addr).add j) = some u := World.ownsRow.cells h rfl
    have g0 := hcells (k * 3 + 0) _ (flatP_get he (f := 0) rfl)
    have g1 := hcells (k * 3 + 1) _ (flatP_get he (f := 1) rfl)
    have g2 := hcells (k * 3 + 2) _ (flatP_get he (f := 2) rfl)
    rw [addr_add] at g0 g1 g2
    have e : (⟨g, 0, none⟩ : Addr).add (k * 3) = ⟨g, k * 3, none⟩ := by rw [addr_add, Nat.zero_add]
    rw [e]
    exact ⟨by simpa using g0, by simpa using g1, by simpa using g2⟩

theorem add64_any (a : Addr) (x y : Int) (w : World) (hc : w.cell? a = some (.int .i64 x)) (hf : w.frozen? a = false) (h0 : -1000000000000000000 ≤ x) (h1 : x ≤ 2000000000000000000) (h2 : -1000000000000000000 ≤ y) (h3 : y ≤ 1000000000000000000) :
    Calls Tryd.prog 61 #[.pointer (some a), .int .i64 y] w fun e w' => e = .returned (.int .i64 (x + y)) ∧ w' = w.setCell a (.int .i64 (x + y)) := by
  have hadd := run_call_add (P := Tryd.prog) Tryd.func72 (by kernel_rfl) (by kernel_rfl) (by kernel_rfl) .i64 (by kernel_rfl) (x := x) (y := y) (s := x + y) hc hf (by
    have x1 : IntKind.i64.wrap (x + y) = x + y := IntWalk.i64_in _ (by omega)
    simp [go_sem, x1])
  clear hc hf
  go_enter Tryd.func61, Tryd.ntmps61
  go_wp2
  go_ret
  exact ⟨rfl, rfl⟩
theorem load64_any (a : Addr) (x : Int) (w : World) (hc : w.cell? a = some (.int .i64 x)) :
    Calls Tryd.prog 41 #[.pointer (some a)] w fun e w' => e = .returned (.int .i64 x) ∧ w' = w := by
  have hload := run_call_load (P := Tryd.prog) Tryd.func58 (by kernel_rfl) (by kernel_rfl) (by kernel_rfl) .i64 (by kernel_rfl) (x := x) hc
  clear hc
  go_enter Tryd.func41, Tryd.ntmps41
  go_wp2
  go_ret
  exact ⟨rfl, rfl⟩

/-- A history's block. -/
abbrev histO (most : Int) (nv : Value) (cur : Int) (mb : Nat) (s : ByteArray) (k : Int) : Obj := .cells #[.int .i64 most, nv, .int .i64 cur, .map (some mb), .string s, .int .i64 k] 71
theorem hist_facts {W : World} {hb mb : Nat} {most cur k : Int} {nv : Value} {s : ByteArray} (h : W.heap[hb]? = some (histO most nv cur mb s k)) :
    W.cell? ⟨hb, 0, none⟩ = some (.int .i64 most) ∧ W.cell? ⟨hb, 1, none⟩ = some nv ∧ W.cell? ⟨hb, 2, none⟩ = some (.int .i64 cur) ∧ W.cell? ⟨hb, 3, none⟩ = some (.map (some mb)) ∧ W.cell? ⟨hb, 4, none⟩ = some (.string s) ∧ W.cell? ⟨hb, 5, none⟩ = some (.int .i64 k) :=
  ⟨cell_of_row _ _ _ _ _ _ h, cell_of_row _ _ _ _ _ _ h, cell_of_row _ _ _ _ _ _ h, cell_of_row _ _ _ _ _ _ h, cell_of_row _ _ _ _ _ _ h, cell_of_row _ _ _ _ _ _ h⟩
theorem hhere_any (hb mb : Nat) (most cur k : Int) (nv : Value) (s : ByteArray) (w : World) (h : w.heap[hb]? = some (histO most nv cur mb s k)) :
    Calls Tryd.prog 20 #[.pointer (some ⟨hb, 0, none⟩)] w fun e w' => e = .returned (.string s) ∧ w' = w := by
  obtain ⟨_, _, _, _, f4, _⟩ := hist_facts h
  clear h
  go_enter Tryd.func20, Tryd.ntmps20
  go_wp2
  go_ret
  exact ⟨rfl, rfl⟩
theorem hpatches_any (hb mb : Nat) (most cur k : Int) (nv : Value) (s : ByteArray) (w : World) (h : w.heap[hb]? = some (histO most nv cur mb s k)) (hk : 0 ≤ k ∧ k ≤ 1000000000000000000) :
    Calls Tryd.prog 22 #[.pointer (some ⟨hb, 0, none⟩)] w fun e w' => e = .returned (.int .i64 k) ∧ w' = w := by
  obtain ⟨_, _, _, _, _, f5⟩ := hist_facts h
  have cL := load64_any ⟨hb, 5, none⟩ k w f5
  clear h
  go_enter Tryd.func22, Tryd.ntmps22
  go_wp2_with (go_at_call 41; refine cL.mono ?_; rintro e w' ⟨rfl, rfl⟩)
  go_ret
  exact ⟨rfl, rfl⟩

theorem idx_first {L : List NodeS} {m : Nat} {y : NodeS} {z : Int} (h : L[m]? = some y) (hz : y.sq = z) (hf : ∀ (j : Nat) (b : NodeS), j < m → L[j]? = some b → b.sq ≠ z) : idx L z = (m : Nat) := by
  unfold idx
  have e : L.findIdx? (fun e => decide (e.sq = z)) = some m := by
    rw [List.findIdx?_eq_some_iff_getElem]
    obtain ⟨hl, he⟩ := List.getElem?_eq_some_iff.1 h
    refine ⟨hl, by rw [he]; simpa using hz, fun j hj => ?_⟩
    have h2 := hf j _ hj (List.getElem?_eq_getElem (Nat.lt_trans hj hl))
    simpa using h2
  rw [e]
theorem hsame_any (e : NodeS) (sb : Nat) (q : Int) (w : World) (hq : w.cell? ⟨sb, 0, none⟩ = some (.int .i64 q)) : Calls Tryd.prog 57 #[nodeV e, .pointer (some ⟨sb, 0, none⟩)] w fun e' w' => e' = .returned (.bool (e.sq == q)) ∧ Kept (fun _ => False) w w' := by
  have hK0 : Hid (Kept (fun _ => False) w (w.alloc (nodeO e))) := (Kept.refl _ w).alloc _
  have hq2 : (w.alloc (nodeO e)).cell? ⟨sb, 0, none⟩ = some (.int .i64 q) := cell_kept hK0.out hq id
  go_enter Tryd.func57, Tryd.ntmps57
  go_wp2_with fail
  go_ret
  exact ⟨rfl, hK0.out⟩
set_option maxRecDepth 100000 in
set_option maxHeartbeats 4000000 in
theorem hindex_any (A : Option Addr) (n c : Nat) (L : List NodeS) (sb : Nat) (q : Int) (w : World) (hA : Ng w A n L) (hn : n ≤ 100000) (hq : w.cell? ⟨sb, 0, none⟩ = some (.int .i64 q)) :
    Calls Tryd.prog 56 #[.slice A n c, .func (.func 57) #[] #[.pointer (some ⟨sb, 0, none⟩)]] w fun e w' => e = .returned (.int .i64 (idx L q)) ∧ Kept (fun _ => False) w w' := by
  have HA := Lib.hid hA
  have HQ := Lib.hid hq
  have HLN : Hid (L.length = n) := hA.len
  obtain ⟨C, hC⟩ : ∃ C, idx L q = C := ⟨_, rfl⟩
  rw [hC]
  have HC := Lib.hid hC
  clear hA hq hC
  go_enter Tryd.func56, Tryd.ntmps56
  go_wp2_with fail
  go_loopw [8] (fun v wr => ∃ k : Nat, k ≤ n ∧ v = .int .i64 k ∧ (∀ (j : Nat) (b : NodeS), j < k → L[j]? = some b → b.sq ≠ q) ∧ Kept (fun _ => False) w wr) (fun v _ => n - (intOf v).toNat)
  case atStart => exact ⟨0, Nat.zero_le _, rfl, (fun j b hj => absurd hj (Nat.not_lt_zero _)), Kept.refl _ _⟩
  case round =>
    obtain ⟨k, hk, rfl, hat, hkept⟩ := hrel
    have HK := Lib.hid hkept
    have HAT := Lib.hid hat
    clear hkept hat
    by_cases hlt : k < n
    · obtain ⟨ad, b, rfl, hb, h4⟩ := (HA.out.kept HK.out (fun _ _ => id)).at_ hlt
      have cR := hsame_any b sb q wr (cell_kept HK.out HQ.out id)
      have HB := Lib.hid hb
      obtain ⟨c0, c1, c2, c3⟩ := h4
      obtain ⟨x0, x1, x2, x3⟩ := b
      simp only at c0 c1 c2 c3 cR
      have b1 : decide (k < n) = true := decide_eq_true hlt
      have b2 : decide ((k : Int) < (n : Int)) = true := decide_eq_true (by omega)
      have t1 : (0 : Int) ≤ (k : Int) := by omega
      have t2 : (k : Int) < (n : Int) := by omega
      clear hb
      by_cases hr : x0 = q
      · have hv : (x0 == q) = true := by simp [hr]
        rw [hv] at cR
        have HV : Hid (C = (k : Int)) := by
          show _ = _
          rw [← HC.out]
          exact idx_first HB.out hr HAT.out
        clear hr hv
        go_wp2_with (go_at_call 57; refine cR.mono ?_; rintro e w2 ⟨rfl, hk2⟩; have HK2 := Lib.hid (HK.out.trans hk2); clear hk2 cR)
        go_ret
        exact ⟨by rw [HV.out]; rfl, HK2.out⟩
      · have hv : (x0 == q) = false := by rw [beq_eq_false_iff_ne]; exact hr
        rw [hv] at cR
        have HR : Hid (∀ (j : Nat) (b : NodeS), j < k + 1 → L[j]? = some b → b.sq ≠ q) := fun j b hj hb => by
          by_cases e : j = k
          · subst e
            rw [HB.out] at hb
            injection hb with hb
            subst hb
            exact hr
          · exact HAT.out j b (by omega) hb
        clear hr hv
        go_wp2_with (go_at_call 57; refine cR.mono ?_; rintro e w2 ⟨rfl, hk2⟩; have HK2 := Lib.hid (HK.out.trans hk2); clear hk2 cR)
        go_roundw
        case rel => exact ⟨k + 1, by omega, by go_num, HR.out, HK2.out⟩
        case measure => simp [intOf] <;> omega
    · obtain rfl : k = n := by omega
      have b1 : decide (k < k) = false := decide_eq_false (by omega)
      have b2 : decide ((k : Int) < (k : Int)) = false := decide_eq_false (by omega)
      have HV : Hid (C = -1) := by
        show _ = _
        rw [← HC.out]
        refine idx_miss (fun x hx h => ?_)
        obtain ⟨j, hj, rfl⟩ := List.getElem_of_mem hx
        exact HAT.out j _ (by have := HLN.out; omega) (List.getElem?_eq_getElem hj) h
      go_wp2_with fail
      go_ret
      exact ⟨by rw [HV.out]; rfl, HK.out⟩
set_option maxRecDepth 100000 in
theorem hfind_any (A : Option Addr) (n c : Nat) (L : List NodeS) (cur z : Int) (w : World) (hA : Ng w A n L) (hn : n ≤ 100000) :
    Calls Tryd.prog 40 #[treeV (.slice A n c) cur, .int .i64 z] w fun e w' => e = .returned (.int .i64 (idx L z)) ∧ Kept (fun _ => False) w w' := by
  have hk0 : Kept (fun _ => False) w ((w.alloc (treeO (.slice A n c) cur)).alloc (.cells #[.int .i64 z] 3)) := ((Kept.refl _ w).alloc _).alloc _
  have cI := hindex_any A n c L (w.heap.size + 1) z _ (hA.kept hk0 (fun _ _ => id)) hn (cell_of_row _ _ _ _ _ _ (heap_two2 w _ _))
  have t0 := (tree_facts (heap_two1 w (treeO (.slice A n c) cur) (.cells #[.int .i64 z] 3))).1
  have HK0 := Lib.hid hk0
  obtain ⟨C, hC⟩ : ∃ C, idx L z = C := ⟨_, rfl⟩
  rw [hC] at cI ⊢
  clear hk0 hA hC
  go_enter Tryd.func40, Tryd.ntmps40
  go_upto_region 1 with fail
  simp only [treeO] at cI HK0 t0
  generalize (w.alloc _).alloc _ = w0 at *
  go_wp2_with (go_at_call 56; refine cI.mono ?_; rintro e w1 ⟨rfl, hk1⟩; have HK1 := Lib.hid (HK0.out.trans hk1); clear hk1 cI)
  go_ret
  exact ⟨rfl, HK1.out⟩
end Go.Proofs.YthbfmdnibijapaaDoor
namespace Go.Proofs.YthbfmdnibijapaaDoor
open Go Go.RowKit

structure TrH (ad : Addr) (n c : Nat) (L : List NodeS) (cur : Int) (tb : Nat) (W : World) : Prop where
  tabs : Tabs W
  ng : Ng W (some ad) n L
  box : W.heap[tb]? = some (treeO (.slice (some ad) n c) cur)
theorem TrH.kept {ad : Addr} {n c : Nat} {L : List NodeS} {cur : Int} {tb : Nat} {W W' : World} (h : TrH ad n c L cur tb W) (hk : Kept (fun _ => False) W W') : TrH ad n c L cur tb W' :=
  ⟨h.tabs.kept hk id id, h.ng.kept hk (fun _ _ => id), (hk.block _ (heap_lt h.box) id).trans h.box⟩
theorem TrH.drew {ad : Addr} {n c : Nat} {L : List NodeS} {cur : Int} {tb : Nat} {W : World} (h : TrH ad n c L cur tb W) : TrH ad n c L cur tb W.drew := h.kept (Kept.refl (fun _ => False) W).drew
theorem TrH.cells {ad : Addr} {n c : Nat} {L : List NodeS} {cur : Int} {tb : Nat} {W : World} (h : TrH ad n c L cur tb W) : W.cell? ⟨tb, 0, none⟩ = some (.slice (some ad) n c) ∧ W.cell? ⟨tb, 1, none⟩ = some (.int .i64 cur) := ⟨(tree_facts h.box).1, (tree_facts h.box).2.1⟩
theorem trh_new {ad : Addr} {n c : Nat} {L : List NodeS} {cur : Int} {w : World} (hT : Tabs w) (hA : Ng w (some ad) n L) : TrH ad n c L cur w.heap.size (w.alloc (treeO (.slice (some ad) n c) cur)) :=
  ⟨hT.kept ((Kept.refl (fun _ => False) w).alloc _) id id, hA.kept ((Kept.refl (fun _ => False) w).alloc _) (fun _ _ => id), heap_alloc_new w _⟩
set_option maxRecDepth 100000 in
set_option maxHeartbeats 4000000 in
theorem new_any (s : ByteArray) (w : World) (hT : Tabs w) (hm : mayB s = true) :
    Calls Tryd.prog 29 #[.string s] w fun r w' => (∃ v, r = .returned (.tuple #[treeV v 0, .int .i64 0]) ∧ On w' w.heap.size v [⟨0, -1, 0, s⟩]) ∧ Kept (fun _ => False) w w' := by
  have hsz := mayB_size hm
  have hk0 : Kept (fun _ => False) w (w.alloc nilT) := (Kept.refl _ w).alloc _
  have cC := check_any s _ (by omega) (hT.kept hk0 id id)
  rw [if_pos hm] at cC
  have HK0 := Lib.hid hk0
  have HY0 : Hid ((w.alloc nilT).heap[w.heap.size]? = some nilT) := heap_alloc_new w _
  obtain ⟨tb, htb⟩ : ∃ tb, w.heap.size = tb := ⟨_, rfl⟩
  have HTB := Lib.hid htb
  rw [htb] at HY0
  clear htb hk0 hT hm
  go_enter Tryd.func29, Tryd.ntmps29
  go_upto_region 1 with fail
  simp only [HTB.out]
  simp only [nilT, treeO] at HY0 HK0 cC
  generalize w.alloc _ = w0 at *
  go_upto_region 4 with (go_at_call 48; refine cC.mono ?_; rintro r w1 ⟨rfl, hk1⟩; have HK1 := Lib.hid (HK0.out.trans hk1); have HY1 := Lib.hid ((hk1.block tb (heap_lt HY0.out) id).trans HY0.out); clear hk1 cC)
  have hY2 : (w1.alloc (nodeO ⟨0, -1, 0, s⟩)).heap[tb]? = some nilT := (((Kept.refl (fun _ => False) w1).alloc _).block tb (heap_lt HY1.out) id).trans HY1.out
  have HY2 := Lib.hid hY2
  obtain ⟨r0, r1, r2, r3⟩ := tree_facts hY2
  have HTW : Hid (tb < w1.heap.size) := heap_lt HY1.out
  have HO : Hid (On (w1.alloc (nodeO ⟨0, -1, 0, s⟩)) w1.heap.size (.slice (some ⟨w1.heap.size, 0, none⟩) 1 1) [⟨0, -1, 0, s⟩]) := by
    have h := World.ownsRow_lit (base := w1.heap.size) (e := 46) (size := 4) w1 #[.int .i64 0, .int .i64 (-1), .int .i64 0, .string s] 1 (Nat.le_refl _) (by decide) rfl
    unfold On
    rw [flatN_one]
    exact h
  have HK2 : Hid (Kept (fun _ => False) w1 (w1.alloc (nodeO ⟨0, -1, 0, s⟩))) := (Kept.refl _ w1).alloc _
  clear hY2
  go_wp2_with fail
  refine bodyPost_ret (res_t1 rfl _ _ tb _ 0 rfl rfl (tree_set HY2.out _ 0)) rfl ⟨⟨_, rfl, ?ho⟩, ?hk⟩
  case ho =>
    have h1 := HO.out.keptS (Kept.tree (g := tb) (S := fun q => q = tb) (Kept.refl (fun q => q = tb) _) rfl (.slice (some ⟨w1.heap.size, 0, none⟩) 1 1) (.int .i64 0)) (fun k hk h => by have := HTW.out; omega)
    exact h1.mono (by have := HTW.out; have := HTB.out; omega)
  case hk => exact (HK1.out.trans HK2.out).fresh (Kept.tree (g := tb) (S := fun q => q = tb) (Kept.refl (fun q => q = tb) _) rfl _ _) (fun b hb h => by have := HTB.out; omega)
end Go.Proofs.YthbfmdnibijapaaDoor
namespace Go.Proofs.YthbfmdnibijapaaDoor
open Go Go.RowKit

/-- A history in memory. -/
structure Hq (most : Int) (ad : Addr) (n c : Nat) (L : List NodeS) (cur : Int) (mb hb : Nat) (s : ByteArray) (k : Int) (kv : List (Int × Value)) (W : World) : Prop where
  tabs : Tabs W
  box : W.heap[hb]? = some (histO most (.slice (some ad) n c) cur mb s k)
  ng : Ng W (some ad) n L
  mp : MapI W mb kv
  lo : 1 < hb ∧ 1 < mb
theorem Hq.kept {most : Int} {ad : Addr} {n c : Nat} {L : List NodeS} {cur : Int} {mb hb : Nat} {s : ByteArray} {k : Int} {kv : List (Int × Value)} {W W' : World} (h : Hq most ad n c L cur mb hb s k kv W) (hk : Kept (fun _ => False) W W') : Hq most ad n c L cur mb hb s k kv W' :=
  ⟨h.tabs.kept hk id id, (hk.block _ (heap_lt h.box) id).trans h.box, h.ng.kept hk (fun _ _ => id), h.mp.kept hk id, h.lo⟩
section
variable {most : Int} {ad : Addr} {n c : Nat} {L : List NodeS} {cur : Int} {mb hb : Nat} {s : ByteArray} {k : Int} {kv : List (Int × Value)}
set_option maxRecDepth 100000 in
set_option maxHeartbeats 4000000 in
theorem parent_any (z : Int) (i : Nat) (e : NodeS) (w : World) (h : Hq most ad n c L cur mb hb s k kv w) (hn : n ≤ 64) (hi : idx L z = (i : Nat)) (he : L[i]? = some e) :
    Calls Tryd.prog 54 #[.pointer (some ⟨hb, 0, none⟩), .int .i64 z] w fun r w' => r = .returned (.int .i64 e.pa) ∧ Kept (fun _ => False) w w' := by
  have hin : i < n := (h.ng.nd he).1
  have b1 : (0 : Int) ≤ (i : Int) := by omega
  have b2 : (i : Int) < (n : Int) := by omega
  have HH := Lib.hid h
  have cF := fun W (h : Hq most ad n c L cur mb hb s k kv W) => hfind_any (some ad) n c L cur z W h.ng (by omega)
  rw [hi] at cF
  have HCF := Lib.hid cF
  have KF : Hid (∀ W, Kept (fun _ => False) w W → W.cell? ⟨hb, 1, none⟩ = some (.slice (some ad) n c) ∧ W.cell? ⟨hb, 2, none⟩ = some (.int .i64 cur) ∧ W.cell? ⟨(ad.add (i * 4)).block, (ad.add (i * 4)).off + 1, none⟩ = some (.int .i64 e.pa)) := by
    show ∀ W, _
    intro W hk
    have hI := HH.out.kept hk
    exact ⟨(hist_facts hI.box).2.1, (hist_facts hI.box).2.2.1, ((hI.ng.nd he).2).c1⟩
  have KA := KF.out w.drew (Kept.refl _ w).drew
  have HD := Lib.hid (HH.out.kept (Kept.refl (fun _ => False) w).drew)
  clear h hi he cF
  go_enter Tryd.func54, Tryd.ntmps54
  go_upto_region 1 with fail
  go_region_held3 (fun (W : World) => W.cell? ⟨hb, 1, none⟩ = some (.slice (some ad) n c) ∧ W.cell? ⟨hb, 2, none⟩ = some (.int .i64 cur) ∧ W.cell? ⟨(ad.add (i * 4)).block, (ad.add (i * 4)).off + 1, none⟩ = some (.int .i64 e.pa))
    (first | with_reducible exact KB | with_reducible exact KA)
    (first | (go_at_call 40; refine (HCF.out _ HD.out).mono ?_; rintro r w3 ⟨rfl, hk3⟩; have HK3 := Lib.hid ((Kept.refl (fun _ => False) w).drew.trans hk3); have KB := KF.out w3 HK3.out; clear hk3))
  all_goals
    go_wp2_with fail
    go_ret
    exact ⟨rfl, HK3.out⟩
end

theorem ps_news {w : World} {ad : Addr} {n : Nat} {L : List PatS} (h : Ps w (some ad) n L) : ∀ j u, (flatP L)[j]? = some u → w.cell? (ad.add j) = some u := by
  intro j u hj
  have hlt : j < L.length * 3 := by
    by_cases hl : j < L.length * 3
    · exact hl
    · rw [List.getElem?_eq_none (by rw [flatP_len]; omega)] at hj; cases hj
  have hk : j / 3 < L.length := by omega
  have hr : L[j / 3]? = some L[j / 3] := List.getElem?_eq_getElem hk
  obtain ⟨ad', he, h4⟩ := h.at' _ _ hr
  injection he with he
  subst he
  generalize L[j / 3] = r at *
  rcases (by omega : j % 3 = 0 ∨ j % 3 = 1 ∨ j % 3 = 2) with hm | hm | hm
  · have e : j / 3 * 3 + 0 = j := by omega
    have h0 := flatP_get hr (f := 0) rfl
    rw [e] at h0
    rw [h0] at hj
    cases hj
    have := h4.c0
    rwa [show j / 3 * 3 = j by omega] at this
  · have e : j / 3 * 3 + 1 = j := by omega
    have h0 := flatP_get hr (f := 1) rfl
    rw [e] at h0
    rw [h0] at hj
    cases hj
    have := h4.c1
    rwa [add_offN _ _ _ (by omega), e] at this
  · have e : j / 3 * 3 + 2 = j := by omega
    have h0 := flatP_get hr (f := 2) rfl
    rw [e] at h0
    rw [h0] at hj
    cases hj
    have := h4.c2
    rwa [add_offN _ _ _ (by omega), e] at this
theorem run_app_pats {w : World} {base : Nat} {v : Value} {bl : List PatS} (hown : Op3 w base v bl) (A : Option Addr) (m c : Nat) (l : List PatS) (hM : Ps w A m l) (hC : A = none → m = 0 ∧ c = 0) (hb : bl.length + m ≤ 100000) (hbase : base ≤ w.heap.size) (ty : TypeId) :
    ∃ v' w', (Builtin.append_ #[76, 76] ty #[v, .slice A m c]).run Tryd.prog w = .ok v' w' ∧ Op3 w' base v' (bl ++ l) ∧ w.grownBy w' v.ownBlock ∧ (v'.ownBlock = v.ownBlock ∨ v'.ownBlock = some w.heap.size) := by
  obtain ⟨i0, hi, hz0, hz1, hz2⟩ := info_parts info_pat
  have hl := hM.1
  match A, hM, hC with
  | none, hM, hC =>
    obtain ⟨rfl, rfl⟩ := hC rfl
    obtain rfl := List.eq_nil_of_length_eq_zero hl
    rw [List.append_nil]
    exact ⟨v, w, run_append_owned_none (P := Tryd.prog) (w := w) base 76 ty 79 i0 3 Tryd.underlying76 hi v bl.length (flatP bl) hown, hown, ⟨rfl, rfl, rfl, Nat.le_refl _, fun _ _ _ => rfl⟩, .inl rfl⟩
  | some ad, hM, hC =>
    obtain ⟨v', w', h1, h2, h3, _, h5⟩ := run_append_own_at (P := Tryd.prog) w base 76 ty 79 i0 (.agg #[.int .i64 0, .int .i64 0, .string ⟨#[]⟩]) 3 32 Tryd.underlying76 hi hz0 hz1 hz2 rfl (by decide) v bl.length (flatP bl) hown ad m c (flatP l) (by rw [flatP_len, hl]) (ps_news hM) flatP_one' (by unfold maxLen; omega) (by omega) hbase
    exact ⟨v', w', h1, by unfold Op3; rw [List.length_append, hl, flatP_app]; exact h2, h3, h5⟩
theorem wpList_app_pats {w : World} {ops : Array Oper} {rest : List Oper} {o : Oper} {a : Act} {Q : Exit → Act → World → Prop} (hgd : o.guard = none) (s x : Operand) (ho : o.op = .call { callee := .builtin .append, args := #[s, x], argTypes := #[76, 76] })
    (base : Nat) (v : Value) (bl : List PatS) (hs : a.eval s = v) (hown : Op3 w base v bl) (A : Option Addr) (m c : Nat) (l : List PatS) (hx : a.eval x = .slice A m c) (hM : Ps w A m l) (hC : A = none → m = 0 ∧ c = 0) (hb : bl.length + m ≤ 100000) (hbase : base ≤ w.heap.size)
    (hK : ∀ v' w', Op3 w' base v' (bl ++ l) → w.grownBy w' v.ownBlock → (v'.ownBlock = v.ownBlock ∨ v'.ownBlock = some w.heap.size) → wpList Tryd.prog ops Q rest (a.put o.dst v') w') : wpList Tryd.prog ops Q (o :: rest) a w := by
  refine wpList_plain hgd fun K hK' => ?_
  obtain ⟨v', w', hrun, h1, h2, h3⟩ := run_app_pats hown A m c l hM hC hb hbase o.type
  unfold Oper.wp
  simp [execOp, ho, resolve, invoke, builtin, hs, hx, hrun, Result.andThen]
  exact hK' _ _ (hK v' w' h1 h2 h3)
theorem ps_built (W : World) (p : PatS) : Ps (W.alloc (.cells #[.int .i64 p.pat, .int .i64 p.del, .string p.ins] 79)) (some ⟨W.heap.size, 0, none⟩) 1 [p] := by
  refine ⟨rfl, fun k q hk => ⟨_, rfl, ?_⟩⟩
  match k, hk with
  | 0, hk =>
    injection hk with hk
    subst hk
    exact ⟨cell_of_row _ _ _ _ _ _ (heap_alloc_new W _), cell_of_row _ _ _ _ _ _ (heap_alloc_new W _), cell_of_row _ _ _ _ _ _ (heap_alloc_new W _)⟩
  | k + 1, hk => simp at hk
/-- Patches from each text to the next one. -/
def chain : ByteArray → List ByteArray → List PatS
  | _, [] => []
  | s, q :: Q => bt s q :: chain q Q
theorem chain_len : ∀ (s : ByteArray) (Q : List ByteArray), (chain s Q).length = Q.length
  | _, [] => rfl
  | s, q :: Q => by unfold chain; rw [List.length_cons, List.length_cons, chain_len q Q]
theorem chain_get : ∀ (s : ByteArray) (Q : List ByteArray) (k : Nat) (q : ByteArray), Q[k]? = some q → ∃ a, (s :: Q)[k]? = some a ∧ (chain s Q)[k]? = some (bt a q)
  | s, [], k, q, h => by simp at h
  | s, x :: Q, 0, q, h => by
    simp only [List.getElem?_cons_zero, Option.some.injEq] at h
    subst h
    exact ⟨s, rfl, rfl⟩
  | s, x :: Q, k + 1, q, h => by
    obtain ⟨a, h1, h2⟩ := chain_get x Q k q (by simpa using h)
    exact ⟨a, by simpa using h1, by unfold chain; simpa using h2⟩
set_option maxRecDepth 100000 in
set_option maxHeartbeats 4000000 in
theorem happly_any (A : Option Addr) (n c : Nat) (s : ByteArray) (Q : List ByteArray) (w : World) (hA : Ps w A n (chain s Q)) (hT : Tabs w) (hn : n ≤ 100000) (hm : ∀ t ∈ s :: Q, mayB t = true) (z : ByteArray) (hz : (s :: Q).getLast? = some z) :
    Calls Tryd.prog 38 #[.string s, .slice A n c] w fun e w' => e = .returned (.string z) ∧ Kept (fun _ => False) w w' := by
  have HA := Lib.hid hA
  have HT := Lib.hid hT
  have HM := Lib.hid hm
  have HLN : Hid (Q.length = n) := by have := hA.len; rw [chain_len] at this; exact this
  have HZ : Hid ((s :: Q)[n]? = some z) := by
    show _ = _
    rw [List.getLast?_eq_getElem?] at hz
    rw [← HLN.out]
    simpa using hz
  clear hA hT hm hz
  go_enter Tryd.func38, Tryd.ntmps38
  go_wp2_with fail
  go_loopw [0, 9] (fun t v wr => ∃ (k : Nat) (x : ByteArray), k ≤ n ∧ v = .int .i64 k ∧ t = .string x ∧ (s :: Q)[k]? = some x ∧ Kept (fun _ => False) w wr) (fun _ v _ => n - (intOf v).toNat)
  case atStart => exact ⟨0, s, Nat.zero_le _, rfl, rfl, rfl, Kept.refl _ _⟩
  case round =>
    obtain ⟨k, x, hk, rfl, rfl, hx, hkept⟩ := hrel
    have HK := Lib.hid hkept
    have HX := Lib.hid hx
    clear hkept hx
    by_cases hlt : k < n
    · obtain ⟨q, hq⟩ : ∃ q, Q[k]? = some q := ⟨_, List.getElem?_eq_getElem (by have := HLN.out; omega)⟩
      obtain ⟨a, ha, hp⟩ := chain_get s Q k q hq
      rw [HX.out] at ha
      injection ha with ha
      subst ha
      obtain ⟨ad, p, rfl, hp', h4⟩ := (HA.out.kept HK.out (fun _ _ => id)).at_ hlt
      rw [hp] at hp'
      injection hp' with hp'
      have HPE := Lib.hid hp'
      have HQX : Hid ((s :: Q)[k + 1]? = some q) := by show _ = _; simpa using hq
      have cP := fun W (h : Tabs W) => papply_b x q W h (HM.out x (List.mem_of_getElem? HX.out)) (HM.out q (List.mem_of_getElem? HQX.out))
      rw [bt_btw, hp'] at cP
      have hTa := (HT.out.kept HK.out id id).kept ((Kept.refl (fun _ => False) wr).alloc (patO p.pat p.del p.ins)) id id
      have cP1 := cP _ hTa
      have HKA := Lib.hid (HK.out.trans ((Kept.refl (fun _ => False) wr).alloc (patO p.pat p.del p.ins)))
      have HG := Lib.hid (heap_alloc_new wr (patO p.pat p.del p.ins))
      obtain ⟨p0, p1, p2⟩ := p
      obtain ⟨c0, c1, c2⟩ := h4
      simp only at c0 c1 c2 cP1 HKA HG
      have b1 : decide (k < n) = true := decide_eq_true hlt
      have b2 : decide ((k : Int) < (n : Int)) = true := decide_eq_true (by omega)
      have t1 : (0 : Int) ≤ (k : Int) := by omega
      have t2 : (k : Int) < (n : Int) := by omega
      clear hq hp hp' cP hTa HPE
      go_upto_region 4 with fail
      clear c0 c1 c2
      obtain ⟨g, hg⟩ : ∃ g, wr.heap.size = g := ⟨_, rfl⟩
      simp only [hg] at HG ⊢
      clear hg
      generalize wr.alloc _ = wa at *
      obtain ⟨g0, g1, g2⟩ := pat_cells HG.out
      go_wp2_with (go_at_call 53; refine cP1.mono ?_; rintro e w2 ⟨rfl, hk2⟩; have HK2 := Lib.hid (HKA.out.trans hk2); clear hk2 cP1)
      go_roundw
      case rel => exact ⟨k + 1, q, by omega, by go_num, rfl, HQX.out, HK2.out⟩
      case measure => simp [intOf] <;> omega
    · obtain rfl : k = n := by omega
      have b1 : decide (k < k) = false := decide_eq_false (by omega)
      have b2 : decide ((k : Int) < (k : Int)) = false := decide_eq_false (by omega)
      have HV : Hid (x = z) := by
        show _ = _
        have h1 := HX.out
        rw [HZ.out] at h1
        injection h1 with h1
        exact h1.symm
      go_wp2_with fail
      go_ret
      exact ⟨by rw [HV.out]; rfl, HK.out⟩
end Go.Proofs.YthbfmdnibijapaaDoor
