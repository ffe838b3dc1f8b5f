/-
  LOWER: a new site reads as it should; that lower wakes.
  LOWER: that lower wakes.
  LOWER: two sites with the same text, round by round: plain.
  LOWER: a site that stays what it is while some blocks are written.
  LOWER: the law's two sites, made, in whatever order.
  LOWER: Down, whatever comes of it.
  LOWER: an op taken up, in whatever order its results are put down; the text behind a patch.
-/
import Derived.Test.YthkohjijppbliaaDoorLpW
set_option linter.unusedVariables false
namespace Go.Proofs.YthkohjijppbliaaDoor
open Go Go.RowKit

theorem SNew.site {w : World} {B : Nat} {y : SiteS} (h : SNew w B y) (hok : SOk y.P) : SiteOk w y := by
  obtain ⟨s, hs, _, hV⟩ := h.sA
  have hle := hV.le
  obtain ⟨hW, hWc, hWn⟩ := h.wait.opsM h.wn
  obtain ⟨hL, hLc, hLn⟩ := h.log.opsM h.ln
  have k1 := hok.els.1
  have k2 := hok.seen.1
  have k3 := hok.wl.1
  have k4 := hok.ll.1
  have k5 := hok.st
  have k6 := hok.ck
  simp only [SiteS.P, List.length_map] at k1 k2 k3 k4 k5 k6
  have h1 := h.sn
  have h2 := h.wn
  have h3 := h.ln
  exact ⟨h.doc.se, by rw [hs]; exact hV.nums h1, by omega, hW, hWc, hL, hLc, by omega, by omega, by omega, by omega, ⟨by omega, by omega⟩, ⟨by omega, by omega⟩, hWn, hLn⟩
/-- What Down leaves is a site that may be. -/
theorem dnS_ok {x : SiteP} {a d : Nat} {R : List Int} (h : Fits x a d R) : SOk (dnS x a d R) := by
  have hst := h.ok.st
  have hck := h.ok.ck
  have hrc := h.rm.ck
  have hrs := h.rm.seen
  have hrl := h.rm.log
  have hk4 : (x.st - 1).toNat < x.seen.length := by have := h.ok.seen.1; omega
  obtain ⟨y, hy⟩ : ∃ y, x.seen[(x.st - 1).toNat]? = some y := ⟨_, List.getElem?_eq_getElem hk4⟩
  have hgd : x.seen.getD (x.st - 1).toNat 0 = y := by rw [List.getD_eq_getElem?_getD, hy]; rfl
  rw [hgd] at hrs
  obtain ⟨_, _, s3, s4⟩ := seenAt_ok (j := d) h.ok.seen hy (by omega)
  obtain ⟨_, _, _, q4⟩ := seenAt_ok (j := R.length) s4 s3 (by omega)
  have hels := docAt_els h (k := d + R.length) (Nat.le_refl _)
  rw [docAt_all h] at hels
  refine ⟨hst, ⟨?_, ?_⟩, hels, fun e he => ?_, q4, h.ok.wl, ?_, fun o ho => ?_⟩
  · show 0 ≤ x.ck + (d : Int) + (R.length : Int)
    omega
  · show x.ck + (d : Int) + (R.length : Int) ≤ 10000
    omega
  · show e.t ≤ x.ck + (d : Int) + (R.length : Int)
    rcases docI_mem he with h1 | h1
    · have := (dnL1_tms h e h1).2
      omega
    · obtain ⟨j, r, hj, rfl⟩ := comes_mem h1
      have h1 := (List.getElem?_eq_some_iff.1 hj).1
      simp only
      omega
  · show (x.ll ++ dnOps x a d R).length ≤ 8000
    rw [List.length_append, dnOps_len h]
    exact hrl
  · rcases List.mem_append.1 ho with h1 | h1
    · exact h.ok.ll.2 o h1
    · obtain ⟨i, hi, hie⟩ := List.getElem_of_mem h1
      exact dnOps_ok h (k := i) (by rw [List.getElem?_eq_getElem hi, hie])
theorem num27_any (n : Int) (w : World) : Calls Tryd.prog 23 #[.int .i64 n] w fun e w' => e = .returned (.int .i64 n) ∧ w' = w := by
  go_enter Tryd.func23, Tryd.ntmps23
  go_wp2
  go_ret
  exact ⟨rfl, rfl⟩
theorem make_four (W : World) : (Instr.makeSlice 40 (.int .i64 4) (.int .i64 4)).run Tryd.prog W = .ok (.slice (some ⟨W.heap.size, 0, none⟩) 4 4) (W.alloc (.cells #[.int .i64 0, .int .i64 0, .int .i64 0, .int .i64 0] 3)) := by
  obtain ⟨i0, hi, hz0, hz1, hz2⟩ := info_parts info_int
  have hr := run_make (P := Tryd.prog) W 40 3 i0 _ Tryd.underlying40 hi hz0 .i64 .i64 4 4 (by omega) (by omega) (by rw [hz2]; omega) (by omega)
  rw [hz1] at hr
  have e : madeCells (Value.int .i64 0).cells 4 = #[.int .i64 0, .int .i64 0, .int .i64 0, .int .i64 0] := by
    apply Array.ext'
    simp [madeCells, Value.cells, List.range, List.range.loop]
  have e3 : Int.toNat 4 = 4 := rfl
  rw [e3, Nat.mul_one, e] at hr
  exact hr
theorem vm_four (W : World) : Vm (W.alloc (.cells #[.int .i64 0, .int .i64 0, .int .i64 0, .int .i64 0] 3)) W.heap.size 4 [0, 0, 0, 0] :=
  ⟨⟨_, heap_alloc_new W _, rfl, rfl⟩, by simp⟩
theorem se_none (w : World) : Se w (.slice none 0 0) [] := se_nil w
/-- A site with nothing but a vector. -/
abbrev siteN (st ck : Int) (v : Value) (L : List ElemS) (s : Nat) : SiteS := ⟨st, ck, v, L, some ⟨s, 0, none⟩, 4, 4, [0, 0, 0, 0], none, 0, 0, [], none, 0, 0, []⟩
theorem siteN_ok {w : World} {st ck : Int} {v : Value} {L : List ElemS} {s : Nat} (hd : Se w v L) (hl : L.length ≤ 2000) (hv : Vm w s 4 [0, 0, 0, 0]) (h1 : I64 st) (h2 : I64 ck) : SiteOk w (siteN st ck v L s) :=
  ⟨hd, hv.nums rfl, Nat.le_refl _, ⟨rfl, fun k b hb => by simp at hb⟩, fun _ => ⟨rfl, rfl⟩, ⟨rfl, fun k b hb => by simp at hb⟩, fun _ => ⟨rfl, rfl⟩, by show L.length ≤ _; omega, by show 4 ≤ _; omega, by show 0 ≤ _; omega, by show 0 ≤ _; omega, h1, h2, Nat.le_refl _, Nat.le_refl _⟩
theorem siteN_sok {st ck : Int} {v : Value} {L : List ElemS} {s : Nat} (h1 : 1 ≤ st ∧ st ≤ 4) (h2 : 0 ≤ ck ∧ ck ≤ 10000) (he : elsOk L) (ht : ∀ e ∈ L, e.t ≤ ck) : SOk (siteN st ck v L s).P :=
  ⟨h1, h2, he, ht, ⟨rfl, fun x hx => by simp [SiteS.P] at hx; omega⟩, ⟨by simp [SiteS.P], fun o ho => by simp [SiteS.P] at ho⟩, ⟨by simp [SiteS.P], fun o ho => by simp [SiteS.P] at ho⟩⟩
end Go.Proofs.YthkohjijppbliaaDoor
namespace Go.Proofs.YthkohjijppbliaaDoor
open Go Go.RowKit

theorem heavy24_none (w : World) : Calls Tryd.prog 5 #[.agg #[.slice none 0 0, .slice none 0 0]] w fun e w' => e = .returned (.bool false) ∧ Kept (fun _ => False) w w' := by
  have hK0 : Hid (Kept (fun _ => False) w (w.alloc (.cells #[.slice none 0 0, .slice none 0 0] 25))) := (Kept.refl _ w).alloc _
  have hP0 : Hid ((w.alloc (.cells #[.slice none 0 0, .slice none 0 0] 25)).heap[w.heap.size]? = some (.cells #[.slice none 0 0, .slice none 0 0] 25 (0, 0))) := heap_alloc_new w _
  have cO : ∀ W, Calls Tryd.prog 27 #[.slice none 0 0] W fun e w' => e = .returned (.int .i64 0) ∧ w' = W := by
    intro W
    go_enter Tryd.func27, Tryd.ntmps27
    go_wp2
    go_loop [3, 4] (fun m i => m = .int .i64 0 ∧ i = .int .i64 0) (fun _ _ => 0)
    case atStart => exact ⟨rfl, rfl⟩
    case round =>
      obtain ⟨rfl, rfl⟩ := hrel
      go_wp2
      go_ret
      exact ⟨rfl, rfl⟩
  go_enter Tryd.func5, Tryd.ntmps5
  go_upto_region 1 with fail
  generalize hpb : w.heap.size = pb at hP0 ⊢
  clear hpb
  generalize w.alloc _ = wa at *
  have p0 : wa.cell? ⟨pb, 0, none⟩ = some (.slice none 0 0) := cell_of_row _ _ _ _ _ _ hP0.out
  have p1 : wa.cell? ⟨pb, 1, none⟩ = some (.slice none 0 0) := cell_of_row _ _ _ _ _ _ hP0.out
  go_wp2_with (go_at_call 27; refine (cO _).mono ?_; rintro e w' ⟨rfl, rfl⟩)
  go_ret
  exact ⟨rfl, hK0.out⟩
abbrev aPat : ByteArray := ⟨#[97]⟩
theorem aPat_eq : runesBytes [97] = aPat := by decide
theorem wk_pok : POk (runesBytes (txL [])) (runesBytes [97]) 0 0 := by
  have e : runesBytes (txL ([] : List ElemS)) = ⟨#[]⟩ := by decide
  rw [e, aPat_eq]
  exact ⟨by decide, by omega, by decide, by omega, by decide, by decide, by decide⟩
theorem wk_room (s : Nat) : Room (siteN 1 0 (.slice none 0 0) [] s).P 0 1 := by
  have e : (siteN 1 0 (.slice none 0 0) [] s).P = ⟨1, 0, [], [0, 0, 0, 0], [], []⟩ := rfl
  rw [e]
  exact ⟨by decide, by decide, by decide, by decide, by decide⟩
def WkD (w : World) (e : Ending) (w' : World) : Prop := ∃ (A B C D E : Option Addr) (c1 n2 c2 n3 c3 n4 c4 c5 : Nat), e = .returned (.tuple #[.slice A 1 c1, .agg #[.int .i64 1, .int .i64 1, .slice B 1 c5, .slice C n2 c2, .slice D n3 c3, .slice E n4 c4], .int .i64 0])
theorem wk_down (s : Nat) (w : World) (hT : Tabs w) (hv : Vm w s 4 [0, 0, 0, 0]) :
    Calls Tryd.prog 22 #[.agg #[.int .i64 1, .int .i64 0, .slice none 0 0, .slice (some ⟨s, 0, none⟩) 4 4, .slice none 0 0, .slice none 0 0], .agg #[.int .i64 0, .int .i64 0, .string aPat]] w fun e w' => WkD w e w' ∧ Kept (fun _ => False) w w' := by
  have h := down_ok (siteN 1 0 (.slice none 0 0) [] s) 0 0 [97] w (siteN_ok (se_nil w) (by simp) hv ⟨by omega, by omega⟩ ⟨by omega, by omega⟩) hT (by decide) (by intro r hr; simp at hr; subst hr; decide) (by decide) (by omega) (by omega)
    (siteN_sok ⟨by omega, by omega⟩ ⟨by omega, by omega⟩ ⟨by simp, by simp, by simp⟩ (by simp)) wk_pok (wk_room s)
  rw [aPat_eq] at h
  refine Calls.mono h ?_
  rintro e w' ⟨⟨T, bl, y, rfl, hT1, h4, ho, hy, hn⟩, hk⟩
  obtain ⟨A, c1, rfl⟩ := own_form' hT1.tg.own
  have hl : bl.length = 1 := by
    have h1 := congrArg List.length ho
    rw [List.length_map] at h1
    rw [h1]
    rfl
  have hdl : y.L.length = 1 := by
    have h1 : y.P.L = _ := congrArg SiteP.L hy
    have h2 : y.L = _ := h1
    rw [h2]
    rfl
  have hst : y.st = 1 := congrArg SiteP.st hy
  have hck : y.ck = 1 := congrArg SiteP.ck hy
  obtain ⟨B, c5, hdv⟩ := hn.doc.form
  refine ⟨⟨A, B, y.sA, y.wA, y.lA, c1, y.sn, y.sc, y.wn, y.wc, y.ln, y.lc, c5, ?_⟩, hk⟩
  rw [hl]
  unfold SiteS.V SiteS.cs
  rw [hst, hck, hdv, hdl]
set_option maxRecDepth 100000 in
set_option maxHeartbeats 16000000 in
theorem wakes27 (w : World) (hT : Tabs w) : Calls Tryd.prog 26 #[] w fun e w' => e = .returned (.bool true) ∧ Kept (fun _ => False) w w' := by
  have cN := fun W => num27_any 0 W
  have HM := make_four w
  have HKM : Hid (Kept (fun _ => False) w (w.alloc (.cells #[.int .i64 0, .int .i64 0, .int .i64 0, .int .i64 0] 3))) := (Kept.refl _ w).alloc _
  have cD := wk_down w.heap.size (w.alloc (.cells #[.int .i64 0, .int .i64 0, .int .i64 0, .int .i64 0] 3)) (hT.kept HKM.out id id) (vm_four w)
  clear hT
  generalize w.alloc (.cells #[.int .i64 0, .int .i64 0, .int .i64 0, .int .i64 0] 3) = w1 at *
  go_enter Tryd.func26, Tryd.ntmps26
  go_wp2_with fail
  refine cD.mono ?_
  clear cD
  rintro ee w2 ⟨⟨A, B, C, D, E, c1, n2, c2, n3, c3, n4, c4, c5, rfl⟩, hk2⟩
  have HK2 := Lib.hid (HKM.out.trans hk2)
  clear hk2
  go_wp2_with (go_at_call 23; refine (cN _).mono ?_; rintro ee w6 ⟨rfl, rfl⟩)
  go_ret
  refine ⟨rfl, ?_⟩
  exact HK2.out.alloc _
end Go.Proofs.YthkohjijppbliaaDoor
namespace Go.Proofs.YthkohjijppbliaaDoor
open Go Go.RowKit

/-- Two sites with the same document and equally long logs. -/
structure Two (x y : SiteP) : Prop where
  ox : SOk x
  oy : SOk y
  el : y.L = x.L
  ll : y.ll.length = x.ll.length
/-- The other one has taken so many ops. -/
structure Inn (x : SiteP) (a d : Nat) (R : List Int) (k : Nat) (y : SiteP) : Prop where
  oy : SOk y
  el : y.L = docAt x a d R k
  ll : y.ll.length = x.ll.length + k
theorem Two.inn {x y : SiteP} {a d : Nat} {R : List Int} (h : Two x y) : Inn x a d R 0 y := ⟨h.oy, by rw [docAt_zero]; exact h.el, h.ll⟩
/-- What Up wants of the next one. -/
theorem Inn.can {x y : SiteP} {a d k : Nat} {R : List Int} {o : Cd.OpP} (hf : Fits x a d R) (h : Inn x a d R k y) (ho : (dnOps x a d R)[k]? = some o) : Cd.opOk o ∧ CanDo y.L o ∧ (∀ L', DoP y.L o L' → elsOk L') ∧ y.ll.length < 8000 := by
  have hl := (List.getElem?_eq_some_iff.1 ho).1
  rw [dnOps_len hf] at hl
  obtain ⟨h1, h2⟩ := step_at hf ho
  have h3 := hf.rm.log
  have h4 := h.ll
  refine ⟨dnOps_ok hf ho, by rw [h.el]; exact h1, fun L' hL => ?_, by omega⟩
  rw [h.el] at hL
  rw [h2 L' hL]
  exact docAt_els hf (by omega)
theorem Inn.next {x y q : SiteP} {a d k : Nat} {R : List Int} {o : Cd.OpP} (hf : Fits x a d R) (h : Inn x a d R k y) (ho : (dnOps x a d R)[k]? = some o) (hr : UpR y o q) : Inn x a d R (k + 1) q := by
  obtain ⟨c1, c2, c3, c4⟩ := h.can hf ho
  obtain ⟨h1, h2⟩ := step_at hf ho
  have hd := hr.doc
  have hd2 := hd
  rw [h.el] at hd
  refine ⟨upr_ok h.oy c1 hr (c3 _ hd2) c4, h2 _ hd, ?_⟩
  rw [hr.ll, List.length_append, h.ll]
  simp only [List.length_singleton]
  omega
theorem Inn.two {x y : SiteP} {a d : Nat} {R : List Int} (hf : Fits x a d R) (h : Inn x a d R (d + R.length) y) : Two (dnS x a d R) y :=
  ⟨dnS_ok hf, h.oy, by rw [h.el, docAt_all hf]; rfl, by
    show _ = (x.ll ++ dnOps x a d R).length
    rw [List.length_append, dnOps_len hf]
    exact h.ll⟩
def someT : List Int := [115, 111, 109, 101, 32, 116, 101, 120, 116, 10, 97, 110, 100, 32, 109, 111, 114, 101]
abbrev someB : ByteArray := ⟨#[115, 111, 109, 101, 32, 116, 101, 120, 116, 10, 97, 110, 100, 32, 109, 111, 114, 101]⟩
theorem someB_rs : rs someB = someT := by decide
theorem someB_may : mayB someB = true := by decide
theorem someT_ok : elsOk (EL someT) ∧ ∀ e ∈ EL someT, e.t ≤ 30 := by
  unfold elsOk elOk sameId
  decide
theorem some_two (v v' : Value) (s s' : Nat) : Two (siteN 1 30 v (EL someT) s).P (siteN 2 30 v' (EL someT) s').P :=
  ⟨siteN_sok ⟨by omega, by omega⟩ ⟨by omega, by omega⟩ someT_ok.1 someT_ok.2, siteN_sok ⟨by omega, by omega⟩ ⟨by omega, by omega⟩ someT_ok.1 someT_ok.2, rfl, rfl⟩
end Go.Proofs.YthkohjijppbliaaDoor
namespace Go.Proofs.YthkohjijppbliaaDoor
open Go Go.RowKit

/-- Whatever is written in some blocks, the site reads as it did. -/
def Stay (w : World) (S : Nat → Prop) (x : SiteS) : Prop := ∀ w', Kept S w w' → SiteOk w' x
theorem Stay.ok {w : World} {S : Nat → Prop} {x : SiteS} (h : Stay w S x) : SiteOk w x := h w (Kept.refl S w)
theorem Stay.keep {w w1 : World} {S : Nat → Prop} {x : SiteS} (h : Stay w S x) (hk : Kept S w w1) : Stay w1 S x := fun w' hk' => h w' (hk.trans hk')
theorem SNew.keepS {S : Nat → Prop} {w w' : World} {B : Nat} {y : SiteS} (h : SNew w B y) (hk : Kept S w w') (hS : ∀ z, B ≤ z → ¬ S z) : SNew w' B y := by
  obtain ⟨s, h1, h2, h3⟩ := h.sA
  exact ⟨h.doc.keptS hk (fun k hk' => hS k (h.doc.lt k hk').1), ⟨s, h1, h2, h3.kept hk (hS s h2)⟩, h.sn, h.wait.keepS hk hS, h.wn, h.log.keepS hk hS, h.ln⟩
theorem stay_new {w : World} {S : Nat → Prop} {B : Nat} {y : SiteS} (h : SNew w B y) (hok : SOk y.P) (hS : ∀ z, B ≤ z → ¬ S z) : Stay w S y := fun w' hk => (h.keepS hk hS).site hok
theorem stay_first {w : World} {S : Nat → Prop} {B : Nat} {st ck : Int} {v : Value} {L : List ElemS} {s : Nat} (hd : Oe w B v L) (hl : L.length ≤ 2000) (hv : Vm w s 4 [0, 0, 0, 0]) (h1 : I64 st) (h2 : I64 ck) (hS : ∀ k, v.ownBlock = some k → ¬ S k) (hs : ¬ S s) : Stay w S (siteN st ck v L s) :=
  fun w' hk => siteN_ok (hd.keptS hk hS).se hl (hv.kept hk hs) h1 h2
/-- The two sites of the law, between rounds. -/
structure Pair (w : World) (ga gb : Nat) (x y : SiteS) : Prop where
  a : w.heap[ga]? = some x.O
  b : w.heap[gb]? = some y.O
  sa : Stay w (fun z => z = ga ∨ z = gb) x
  sb : Stay w (fun z => z = ga ∨ z = gb) y
  two : Two x.P y.P
theorem Pair.keep {w w' : World} {ga gb : Nat} {x y : SiteS} (h : Pair w ga gb x y) (hk : Kept (fun _ => False) w w') : Pair w' ga gb x y :=
  ⟨(hk.block _ (heap_lt h.a) id).trans h.a, (hk.block _ (heap_lt h.b) id).trans h.b, h.sa.keep hk.any, h.sb.keep hk.any, h.two⟩
/-- A site written over another. -/
theorem site_over {w : World} {g : Nat} {x y : SiteS} (h : w.heap[g]? = some x.O) :
    ((((((w.setCell ⟨g, 0, none⟩ (.int .i64 y.st)).setCell ⟨g, 1, none⟩ (.int .i64 y.ck)).setCell ⟨g, 2, none⟩ y.dv).setCell ⟨g, 3, none⟩ (.slice y.sA y.sn y.sc)).setCell ⟨g, 4, none⟩ (.slice y.wA y.wn y.wc)).setCell ⟨g, 5, none⟩ (.slice y.lA y.ln y.lc)).heap[g]? = some y.O :=
  six_set h _ _ _ _ _ _
end Go.Proofs.YthkohjijppbliaaDoor
namespace Go.Proofs.YthkohjijppbliaaDoor
open Go Go.RowKit

theorem some_first (W : World) : Calls Tryd.prog 17 #[.string someB] W fun e w' => (∃ v, e = .returned (.tuple #[v, .bool true]) ∧ Oe w' W.heap.size v (EL someT)) ∧ Kept (fun _ => False) W w' := by
  refine (rfirst_any someB W someB_may).mono fun e w' ⟨h, hk⟩ => ⟨?_, hk⟩
  unfold RFirst at h
  rw [someB_rs, if_pos (by decide)] at h
  exact h
/-- The second site, made. -/
def SecB (w wx : World) (v : Value) : Prop := ∃ (g s : Nat) (v' : Value), v = .pointer (some ⟨g, 0, none⟩) ∧ Kept (fun _ => False) w wx ∧ wx.heap[g]? = some (siteN 2 30 v' (EL someT) s).O ∧ Oe wx w.heap.size v' (EL someT) ∧ Vm wx s 4 [0, 0, 0, 0] ∧ w.heap.size ≤ g ∧ w.heap.size ≤ s ∧ (∀ k, v'.ownBlock = some k → k ≠ g) ∧ s ≠ g
theorem a_facts (w : World) (v : Value) : Kept (fun _ => False) w ((w.alloc (.cells #[.int .i64 0, .int .i64 0, .int .i64 0, .int .i64 0] 3)).alloc (siteN 1 30 v (EL someT) w.heap.size).O) ∧ ((w.alloc (.cells #[.int .i64 0, .int .i64 0, .int .i64 0, .int .i64 0] 3)).alloc (siteN 1 30 v (EL someT) w.heap.size).O).heap[w.heap.size + 1]? = some (siteN 1 30 v (EL someT) w.heap.size).O ∧ Vm ((w.alloc (.cells #[.int .i64 0, .int .i64 0, .int .i64 0, .int .i64 0] 3)).alloc (siteN 1 30 v (EL someT) w.heap.size).O) w.heap.size 4 [0, 0, 0, 0] := by
  have h1 := vm_four w
  have h2 : ((w.alloc (.cells #[.int .i64 0, .int .i64 0, .int .i64 0, .int .i64 0] 3)).alloc (siteN 1 30 v (EL someT) w.heap.size).O).heap[(w.alloc (.cells #[.int .i64 0, .int .i64 0, .int .i64 0, .int .i64 0] 3)).heap.size]? = some (siteN 1 30 v (EL someT) w.heap.size).O := heap_alloc_new _ _
  have hz : (w.alloc (.cells #[.int .i64 0, .int .i64 0, .int .i64 0, .int .i64 0] 3)).heap.size = w.heap.size + 1 := by simp
  rw [hz] at h2
  exact ⟨((Kept.refl _ w).alloc _).alloc _, h2, h1.kept ((Kept.refl (fun _ => False) _).alloc _) id⟩
theorem secB3 {w w6 : World} {v' : Value} {s : Nat} (hk : Kept (fun _ => False) w w6) (ho : Oe w6 w.heap.size v' (EL someT)) (hv : Vm w6 s 4 [0, 0, 0, 0]) (hs : w.heap.size ≤ s) : SecB w (w6.alloc (siteN 2 30 v' (EL someT) s).O) (.pointer (some ⟨w6.heap.size, 0, none⟩)) :=
  ⟨_, s, v', rfl, hk.alloc _, heap_alloc_new _ _, ho.kept ((Kept.refl _ _).alloc _), hv.kept ((Kept.refl (fun _ => False) _).alloc _) id, hk.size, hs, fun k hk' e => by have := (ho.lt k hk').2; omega, fun e => by have := hv.lt; omega⟩
theorem secB1 {w w6 : World} {v' : Value} (hk : Kept (fun _ => False) w w6) (ho : Oe w6 w.heap.size v' (EL someT)) : SecB w ((w6.alloc (.cells #[.int .i64 0, .int .i64 0, .int .i64 0, .int .i64 0] 3)).alloc (siteN 2 30 v' (EL someT) w6.heap.size).O) (.pointer (some ⟨w6.heap.size + 1, 0, none⟩)) := by
  have h := secB3 (hk.alloc (.cells #[.int .i64 0, .int .i64 0, .int .i64 0, .int .i64 0] 3)) (ho.kept ((Kept.refl _ _).alloc _)) (vm_four w6) hk.size
  have hz : (w6.alloc (.cells #[.int .i64 0, .int .i64 0, .int .i64 0, .int .i64 0] 3)).heap.size = w6.heap.size + 1 := by simp
  rw [hz] at h
  exact h
theorem secB2 {w w6 : World} {v' : Value} (hk : Kept (fun _ => False) w w6) (ho : Oe w6 w.heap.size v' (EL someT)) : SecB w ((w6.alloc (siteN 2 30 v' (EL someT) (w6.heap.size + 1)).O).alloc (.cells #[.int .i64 0, .int .i64 0, .int .i64 0, .int .i64 0] 3)) (.pointer (some ⟨w6.heap.size, 0, none⟩)) := by
  have hz : (w6.alloc (siteN 2 30 v' (EL someT) (w6.heap.size + 1)).O).heap.size = w6.heap.size + 1 := by simp
  have hv := vm_four (w6.alloc (siteN 2 30 v' (EL someT) (w6.heap.size + 1)).O)
  rw [hz] at hv
  have h0 := heap_alloc_new w6 (siteN 2 30 v' (EL someT) (w6.heap.size + 1)).O
  exact ⟨_, _, v', rfl, (hk.alloc _).alloc _, (((Kept.refl (fun _ => False) _).alloc _).block _ (heap_lt h0) id).trans h0, ho.kept (((Kept.refl _ _).alloc _).alloc _), hv, hk.size, by have := hk.size; omega, fun k hk' e => by have := (ho.lt k hk').2; omega, by omega⟩
theorem secB4 {w w6 : World} {v' : Value} {g s : Nat} (hk : Kept (fun _ => False) w w6) (ho : Oe w6 w.heap.size v' (EL someT)) (hv : Vm w6 s 4 [0, 0, 0, 0]) (hs : w.heap.size ≤ s) (hg : w6.heap[g]? = some (.cells zSite 46 (0, 0))) (hgs : g ≠ s) (hgw : w.heap.size ≤ g) (hx : ∀ k, v'.ownBlock = some k → k ≠ g) :
    SecB w ((((((w6.setCell ⟨g, 0, none⟩ (.int .i64 2)).setCell ⟨g, 1, none⟩ (.int .i64 30)).setCell ⟨g, 2, none⟩ v').setCell ⟨g, 3, none⟩ (.slice (some ⟨s, 0, none⟩) 4 4)).setCell ⟨g, 4, none⟩ (.slice none 0 0)).setCell ⟨g, 5, none⟩ (.slice none 0 0)) (.pointer (some ⟨g, 0, none⟩)) := by
  have h6 := six_set hg (.int .i64 2) (.int .i64 30) v' (.slice (some ⟨s, 0, none⟩) 4 4) (.slice none 0 0) (.slice none 0 0)
  have k6 := Kept.six (S := fun z => z = g) (Kept.refl (fun z => z = g) w6) rfl (.int .i64 2) (.int .i64 30) v' (.slice (some ⟨s, 0, none⟩) 4 4) (.slice none 0 0) (.slice none 0 0)
  exact ⟨g, s, v', rfl, hk.fresh k6 (fun z hz e => by have e : z = g := e; omega), h6, ho.keptS k6 (fun k hk' e => hx k hk' e), hv.kept k6 (fun e => hgs e.symm), hgw, hs, hx, fun e => hgs e.symm⟩
/-- The two sites, made. -/
theorem sec_pair {w wx : World} {B s : Nat} {v pv : Value} (hga : w.heap[s + 1]? = some (siteN 1 30 v (EL someT) s).O) (hva : Vm w s 4 [0, 0, 0, 0]) (hv : Oe w B v (EL someT)) (hvl : ∀ k, v.ownBlock = some k → k < s) (h : SecB w wx pv) :
    ∃ (gb : Nat) (y : SiteS), pv = .pointer (some ⟨gb, 0, none⟩) ∧ w.heap.size ≤ gb ∧ Kept (fun _ => False) w wx ∧ Pair wx (s + 1) gb (siteN 1 30 v (EL someT) s) y := by
  obtain ⟨g, s2, v', rfl, hk, hg, ho, hv2, hgw, hsw, hx, hsg⟩ := h
  have hl := heap_lt hga
  refine ⟨g, siteN 2 30 v' (EL someT) s2, rfl, hgw, hk, ⟨(hk.block _ hl id).trans hga, hg, ?_, ?_, some_two v v' s s2⟩⟩
  · refine stay_first (hv.kept hk) (by decide) (hva.kept hk id) ⟨by omega, by omega⟩ ⟨by omega, by omega⟩ (fun k hk' e => ?_) (fun e => ?_)
    · have h1 := hvl k hk'
      rcases e with e | e <;> omega
    · rcases e with e | e <;> omega
  · refine stay_first ho (by decide) hv2 ⟨by omega, by omega⟩ ⟨by omega, by omega⟩ (fun k hk' e => ?_) (fun e => ?_)
    · rcases e with e | e
      · have := (ho.lt k hk').1
        omega
      · exact hx k hk' e
    · rcases e with e | e
      · omega
      · exact hsg e
end Go.Proofs.YthkohjijppbliaaDoor
namespace Go.Proofs.YthkohjijppbliaaDoor
open Go Go.RowKit

/-- Refused, or done. -/
def DnAll (w w' : World) (x : SiteP) (a d : Nat) (PX : ByteArray) (e : Ending) : Prop :=
  (∃ c : Int, (c = 1 ∨ c = 4) ∧ e = .returned (.tuple #[.slice none 0 0, .agg zSite, .int .i64 c])) ∨ (∃ R, PX = runesBytes R ∧ Vld R ∧ Fits x a d R ∧ DnOk w w' x a d R e)
theorem down_all (x : SiteS) (a d : Nat) (PX : ByteArray) (w : World) (hx : SiteOk w x) (hT : Tabs w) (hP : PX.size ≤ 6000) (hok : SOk x.P) (had : a + d ≤ 2000) :
    Calls Tryd.prog 22 #[x.V, patV a d PX] w fun e w' => DnAll w w' x.P a d PX e ∧ Kept (fun _ => False) w w' := by
  by_cases hp : POk (runesBytes (txL x.L)) PX a d
  · have hv := hp.val
    have he : runesBytes (rs PX) = PX := valid_rs hv
    have hR : Vld (rs PX) := fun r hr => Utf.valid_runes hv r hr
    have hl := rs_len PX
    rw [← he] at hp
    by_cases hr : Room x.P d (rs PX).length
    · have h := down_ok x a d (rs PX) w hx hT (by rw [he]; omega) hR (by omega) (by omega) (by omega) hok hp hr
      rw [he] at h
      exact h.mono fun e w' ⟨h1, hk⟩ => ⟨.inr ⟨rs PX, he.symm, hR, fits_of hok hr hR hp, h1⟩, hk⟩
    · have h := down_full x a d (rs PX) w hx hT (by rw [he]; omega) hR (by omega) (by omega) (by omega) hok hp hr
      rw [he] at h
      exact h.mono fun e w' ⟨h1, hk⟩ => ⟨.inl ⟨4, .inr rfl, h1⟩, hk⟩
  · exact (down_form x a d PX w hx hT (by omega) ⟨by omega, by omega⟩ ⟨by omega, by omega⟩ (fun h => hp h.2)).mono fun e w' ⟨h1, hk⟩ => ⟨.inl ⟨1, .inl rfl, h1⟩, hk⟩
end Go.Proofs.YthkohjijppbliaaDoor
namespace Go.Proofs.YthkohjijppbliaaDoor
open Go Go.RowKit

theorem SNew.mono {w : World} {B B' : Nat} {y : SiteS} (h : SNew w B y) (hb : B' ≤ B) : SNew w B' y := by
  obtain ⟨s, h1, h2, h3⟩ := h.sA
  exact ⟨h.doc.mono hb, ⟨s, h1, by omega, h3⟩, h.sn, h.wait.mono hb, h.wn, h.log.mono hb, h.ln⟩
theorem Kept.here {S : Nat → Prop} {w w' : World} (h : Kept S w w') : Kept (fun z => S z ∧ z < w.heap.size) w w' :=
  ⟨h.os, h.tape, h.output, h.size, fun k hk hn => h.block k hk (fun hs => hn ⟨hs, hk⟩)⟩
/-- What is known of Up's results, put down. -/
def UpB (wi wx : World) (p : SiteP) (o : Cd.OpP) (v u : Value) : Prop := ∃ (g : Nat) (y : SiteS), v = .pointer (some ⟨g, 0, none⟩) ∧ u = .int .i64 0 ∧ Kept (fun _ => False) wi wx ∧ wx.heap[g]? = some y.O ∧ SNew wx wi.heap.size y ∧ UpR p o y.P ∧ wi.heap.size ≤ g
theorem up_cut {wi wa wb wx : World} {p : SiteP} {o : Cd.OpP} {y : SiteS} {g : Nat} (h1 : Kept (fun _ => False) wi wa) (h2 : Kept (fun _ => False) wa wb) (hn : SNew wb wa.heap.size y) (hu : UpR p o y.P)
    (hk : Kept (fun z => (wi.heap.size ≤ z ∧ z < wa.heap.size) ∨ wb.heap.size ≤ z) wb wx) (hg : wi.heap.size ≤ g) (hx : wx.heap[g]? = some y.O) : UpB wi wx p o (.pointer (some ⟨g, 0, none⟩)) (.int .i64 0) := by
  have z1 := h1.size
  have z2 := h2.size
  refine ⟨g, y, rfl, rfl, (h1.trans h2).fresh hk (fun z hz e => by rcases e with e | e <;> omega), hx, (hn.keepS hk.here (fun z hz e => ?_)).mono z1, hu, hg⟩
  obtain ⟨e, e'⟩ := e
  rcases e with e | e <;> omega
theorem heap_far3 {w : World} {g q : Nat} {a0 a1 a2 a3 a4 a5 : Value} {t : TypeId} {f : Nat × Nat} (h : w.heap[q]? = some (.cells #[a0, a1, a2, a3, a4, a5] t f)) (hne : g ≠ q) (u0 u1 u2 : Value) :
    (((w.setCell ⟨g, 0, none⟩ u0).setCell ⟨g, 1, none⟩ u1).setCell ⟨g, 2, none⟩ u2).heap[q]? = some (.cells #[a0, a1, a2, a3, a4, a5] t f) := by
  have hk : Kept (fun z => z = g) w (((w.setCell ⟨g, 0, none⟩ u0).setCell ⟨g, 1, none⟩ u1).setCell ⟨g, 2, none⟩ u2) := Kept.three (Kept.refl (fun z => z = g) w) rfl _ _ _
  exact (hk.block q (heap_lt h) (fun e => hne e.symm)).trans h
theorem heap_far6 {w : World} {g q : Nat} {a0 a1 a2 : Value} {t : TypeId} {f : Nat × Nat} (h : w.heap[q]? = some (.cells #[a0, a1, a2] t f)) (hne : g ≠ q) (u0 u1 u2 u3 u4 u5 : Value) :
    ((((((w.setCell ⟨g, 0, none⟩ u0).setCell ⟨g, 1, none⟩ u1).setCell ⟨g, 2, none⟩ u2).setCell ⟨g, 3, none⟩ u3).setCell ⟨g, 4, none⟩ u4).setCell ⟨g, 5, none⟩ u5).heap[q]? = some (.cells #[a0, a1, a2] t f) := by
  have hk : Kept (fun z => z = g) w ((((((w.setCell ⟨g, 0, none⟩ u0).setCell ⟨g, 1, none⟩ u1).setCell ⟨g, 2, none⟩ u2).setCell ⟨g, 3, none⟩ u3).setCell ⟨g, 4, none⟩ u4).setCell ⟨g, 5, none⟩ u5) := Kept.six (Kept.refl (fun z => z = g) w) rfl _ _ _ _ _ _
  exact (hk.block q (heap_lt h) (fun e => hne e.symm)).trans h
theorem heap_old {w : World} {g : Nat} {o : Obj} (h : w.heap[g]? = some o) (o' : Obj) : (w.alloc o').heap[g]? = some o :=
  (((Kept.refl (fun _ => False) w).alloc o').block g (heap_lt h) id).trans h
theorem heap_new1 (w : World) (o o' : Obj) : ((w.alloc o).alloc o').heap[w.heap.size + 1]? = some o' := by
  have h : ((w.alloc o).alloc o').heap[(w.alloc o).heap.size]? = some o' := heap_alloc_new _ _
  have hz : (w.alloc o).heap.size = w.heap.size + 1 := by simp
  rw [hz] at h
  exact h
theorem both_facts {w : World} {p q : Nat} {a0 a1 a2 b0 b1 b2 b3 b4 b5 : Value} {t t' : TypeId} (hp : w.heap[p]? = some (.cells #[a0, a1, a2] t (0, 0))) (hq : w.heap[q]? = some (.cells #[b0, b1, b2, b3, b4, b5] t' (0, 0))) (hne : p ≠ q) (u0 u1 u2 v0 v1 v2 v3 v4 v5 : Value) :
    (((w.cell? ⟨p, 0, none⟩ = some a0 ∧ w.cell? ⟨p, 1, none⟩ = some a1 ∧ w.cell? ⟨p, 2, none⟩ = some a2) ∧ (w.frozen? ⟨p, 0, none⟩ = false ∧ w.frozen? ⟨p, 1, none⟩ = false ∧ w.frozen? ⟨p, 2, none⟩ = false)) ∧
    ((w.cell? ⟨q, 0, none⟩ = some b0 ∧ w.cell? ⟨q, 1, none⟩ = some b1 ∧ w.cell? ⟨q, 2, none⟩ = some b2 ∧ w.cell? ⟨q, 3, none⟩ = some b3 ∧ w.cell? ⟨q, 4, none⟩ = some b4 ∧ w.cell? ⟨q, 5, none⟩ = some b5) ∧
    (w.frozen? ⟨q, 0, none⟩ = false ∧ w.frozen? ⟨q, 1, none⟩ = false ∧ w.frozen? ⟨q, 2, none⟩ = false ∧ w.frozen? ⟨q, 3, none⟩ = false ∧ w.frozen? ⟨q, 4, none⟩ = false ∧ w.frozen? ⟨q, 5, none⟩ = false))) ∧
    (∀ W, W = ((((((w.setCell ⟨q, 0, none⟩ v0).setCell ⟨q, 1, none⟩ v1).setCell ⟨q, 2, none⟩ v2).setCell ⟨q, 3, none⟩ v3).setCell ⟨q, 4, none⟩ v4).setCell ⟨q, 5, none⟩ v5) → ((W.cell? ⟨p, 0, none⟩ = some a0 ∧ W.cell? ⟨p, 1, none⟩ = some a1 ∧ W.cell? ⟨p, 2, none⟩ = some a2) ∧ (W.frozen? ⟨p, 0, none⟩ = false ∧ W.frozen? ⟨p, 1, none⟩ = false ∧ W.frozen? ⟨p, 2, none⟩ = false))) ∧
    (∀ W, W = (((w.setCell ⟨p, 0, none⟩ u0).setCell ⟨p, 1, none⟩ u1).setCell ⟨p, 2, none⟩ u2) → (W.cell? ⟨q, 0, none⟩ = some b0 ∧ W.cell? ⟨q, 1, none⟩ = some b1 ∧ W.cell? ⟨q, 2, none⟩ = some b2 ∧ W.cell? ⟨q, 3, none⟩ = some b3 ∧ W.cell? ⟨q, 4, none⟩ = some b4 ∧ W.cell? ⟨q, 5, none⟩ = some b5) ∧
    (W.frozen? ⟨q, 0, none⟩ = false ∧ W.frozen? ⟨q, 1, none⟩ = false ∧ W.frozen? ⟨q, 2, none⟩ = false ∧ W.frozen? ⟨q, 3, none⟩ = false ∧ W.frozen? ⟨q, 4, none⟩ = false ∧ W.frozen? ⟨q, 5, none⟩ = false)) :=
  ⟨⟨three_facts hp, six_facts hq⟩, fun W e => by rw [e]; exact three_facts (heap_far6 hp hne.symm v0 v1 v2 v3 v4 v5), fun W e => by rw [e]; exact six_facts (heap_far3 hq hne u0 u1 u2)⟩
/-- The text that a patch makes. -/
theorem lower_text {x : SiteP} {a d : Nat} {R : List Int} (hf : Fits x a d R) (hv : Vld (txL x.L)) {TX qs : ByteArray} (hT : runesBytes (txL x.L) = TX) (hq : qs = runesBytes R) :
    runesBytes ((rs TX).take a) ++ qs ++ runesBytes ((rs TX).drop (a + d)) = runesBytes (txL (dnDoc x a d R)) := by
  rw [dnDoc_text hf, ← hT, rs_txt hv, hq, txt_append, txt_append]
end Go.Proofs.YthkohjijppbliaaDoor
