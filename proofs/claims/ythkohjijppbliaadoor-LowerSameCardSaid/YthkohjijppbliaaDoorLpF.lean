/-
  SITES: own.Site, a copy.
-/
import Derived.Test.YthkohjijppbliaaDoorLpC
set_option linter.unusedVariables false
namespace Go.Proofs.YthkohjijppbliaaDoor
open Go Go.RowKit

theorem six_set {w : World} {g : Nat} {a0 a1 a2 a3 a4 a5 : Value} {t : TypeId} {f : Nat × Nat} (h : w.heap[g]? = some (.cells #[a0, a1, a2, a3, a4, a5] t f)) (u0 u1 u2 u3 u4 u5 : Value) :
    ((((((w.setCell ⟨g, 0, none⟩ u0).setCell ⟨g, 1, none⟩ u1).setCell ⟨g, 2, none⟩ u2).setCell ⟨g, 3, none⟩ u3).setCell ⟨g, 4, none⟩ u4).setCell ⟨g, 5, none⟩ u5).heap[g]? = some (.cells #[u0, u1, u2, u3, u4, u5] t f) := by
  have h0 : (w.setCell ⟨g, 0, none⟩ u0).heap[g]? = some (.cells #[u0, a1, a2, a3, a4, a5] t f) := heap_set h u0
  have h1 : ((w.setCell ⟨g, 0, none⟩ u0).setCell ⟨g, 1, none⟩ u1).heap[g]? = some (.cells #[u0, u1, a2, a3, a4, a5] t f) := heap_set h0 u1
  have h2 : (((w.setCell ⟨g, 0, none⟩ u0).setCell ⟨g, 1, none⟩ u1).setCell ⟨g, 2, none⟩ u2).heap[g]? = some (.cells #[u0, u1, u2, a3, a4, a5] t f) := heap_set h1 u2
  have h3 : ((((w.setCell ⟨g, 0, none⟩ u0).setCell ⟨g, 1, none⟩ u1).setCell ⟨g, 2, none⟩ u2).setCell ⟨g, 3, none⟩ u3).heap[g]? = some (.cells #[u0, u1, u2, u3, a4, a5] t f) := heap_set h2 u3
  have h4 : (((((w.setCell ⟨g, 0, none⟩ u0).setCell ⟨g, 1, none⟩ u1).setCell ⟨g, 2, none⟩ u2).setCell ⟨g, 3, none⟩ u3).setCell ⟨g, 4, none⟩ u4).heap[g]? = some (.cells #[u0, u1, u2, u3, u4, a5] t f) := heap_set h3 u4
  exact heap_set h4 u5
theorem Kept.six {S : Nat → Prop} {w w1 : World} {g : Nat} (h : Kept S w w1) (hg : S g) (u0 u1 u2 u3 u4 u5 : Value) :
    Kept S w ((((((w1.setCell ⟨g, 0, none⟩ u0).setCell ⟨g, 1, none⟩ u1).setCell ⟨g, 2, none⟩ u2).setCell ⟨g, 3, none⟩ u3).setCell ⟨g, 4, none⟩ u4).setCell ⟨g, 5, none⟩ u5) :=
  (((((h.setCell (p := ⟨g, 0, none⟩) hg _).setCell (p := ⟨g, 1, none⟩) hg _).setCell (p := ⟨g, 2, none⟩) hg _).setCell (p := ⟨g, 3, none⟩) hg _).setCell (p := ⟨g, 4, none⟩) hg _).setCell (p := ⟨g, 5, none⟩) hg _
theorem six_facts {w : World} {g : Nat} {a0 a1 a2 a3 a4 a5 : Value} {t : TypeId} (h : w.heap[g]? = some (.cells #[a0, a1, a2, a3, a4, a5] t (0, 0))) :
    (w.cell? ⟨g, 0, none⟩ = some a0 ∧ w.cell? ⟨g, 1, none⟩ = some a1 ∧ w.cell? ⟨g, 2, none⟩ = some a2 ∧ w.cell? ⟨g, 3, none⟩ = some a3 ∧ w.cell? ⟨g, 4, none⟩ = some a4 ∧ w.cell? ⟨g, 5, none⟩ = some a5) ∧
    (w.frozen? ⟨g, 0, none⟩ = false ∧ w.frozen? ⟨g, 1, none⟩ = false ∧ w.frozen? ⟨g, 2, none⟩ = false ∧ w.frozen? ⟨g, 3, none⟩ = false ∧ w.frozen? ⟨g, 4, none⟩ = false ∧ w.frozen? ⟨g, 5, none⟩ = false) :=
  ⟨⟨cell_of_row _ _ _ _ _ _ h, cell_of_row _ _ _ _ _ _ h, cell_of_row _ _ _ _ _ _ h, cell_of_row _ _ _ _ _ _ h, cell_of_row _ _ _ _ _ _ h, cell_of_row _ _ _ _ _ _ h⟩, frozen_of h, frozen_of h, frozen_of h, frozen_of h, frozen_of h, frozen_of h⟩
theorem res_site {fn : Func} {p : Tmp} (h : fn.results = #[.cell p 46]) (tmps : Array Value) (w : World) (g : Nat) (a0 a1 a2 a3 a4 a5 : Value) (fr : Nat × Nat) (hp : tmps.getD p undef = .pointer (some ⟨g, 0, none⟩))
    (hg : w.heap[g]? = some (.cells #[a0, a1, a2, a3, a4, a5] 46 fr)) :
    (results fn tmps).run Tryd.prog w = .ok (.agg #[a0, a1, a2, a3, a4, a5]) w :=
  results_cell_row h tmps _ g _ _ _ _ hp hg Tryd.underlying46 rfl (by kernel_rfl)
/-- Operations of the call's own, with their vectors. -/
structure To (w : World) (B : Nat) (T : Value) (bl : List OpS) : Prop where
  tg : Tg w B T bl
  far : ∀ q ∈ bl, ∀ a, q.A = some a → B ≤ a.block
theorem own_form' {w : World} {B n size : Nat} {e : TypeId} {v : Value} {xs : List Value} (h : w.ownsRow B e size v n xs) : ∃ A c, v = .slice A n c := by
  rcases h.2 with ⟨rfl, rfl⟩ | ⟨g, cap, cur, rfl, _⟩
  · exact ⟨none, 0, rfl⟩
  · exact ⟨_, cap, rfl⟩
theorem To.keep {w w' : World} {B : Nat} {T : Value} {bl : List OpS} (h : To w B T bl) (hk : Kept (fun _ => False) w w') : To w' B T bl := ⟨h.tg.keep hk, h.far⟩
theorem To.keepS {S : Nat → Prop} {w w' : World} {B : Nat} {T : Value} {bl : List OpS} (h : To w B T bl) (hk : Kept S w w') (hs : ∀ q, B ≤ q → ¬ S q) : To w' B T bl :=
  ⟨h.tg.keepS hk (fun g hg => hs g (World.ownsRow.lt h.tg.own g hg).1) (fun q hq _ a ha => hs _ (h.far q hq a ha)), h.far⟩
theorem To.mono {w : World} {B B' : Nat} {T : Value} {bl : List OpS} (h : To w B T bl) (hb : B' ≤ B) : To w B' T bl :=
  ⟨⟨own_mono h.tg.own hb, h.tg.ok, h.tg.apart⟩, fun q hq a ha => Nat.le_trans hb (h.far q hq a ha)⟩
theorem to_nil (w : World) (B : Nat) : To w B (.slice none 0 0) [] := ⟨tg_nil w B, fun q hq => by cases hq⟩
theorem opsret_to {w w' : World} {n : Nat} {al : List OpS} {e : Ending} (h : OpsRet w n al e w') : ∃ (A : Option Addr) (c : Nat) (bl : List OpS), e = .returned (.slice A n c) ∧ To w' w.heap.size (.slice A n c) bl ∧ bl.length = n ∧ bl.map (·.o) = al.map (·.o) := by
  obtain ⟨A, c, bl, he, hM, ho, hC, hA, hB, h2, hown⟩ := h
  refine ⟨A, c, bl, he, ⟨⟨by rw [hM.1]; exact hown, hM.oks, fun q hq h0 a ha => ?_⟩, hB⟩, hM.1, ho⟩
  rcases h2 with h2 | ⟨g, s, sc, al', h3, h4, h5, h6, h7, h8, h9, h10⟩
  · have h1 := hM.1
    rw [h2] at h1
    obtain rfl := List.eq_nil_of_length_eq_zero h1
    cases hq
  · subst h3
    rw [h4] at hq
    obtain ⟨i, hi, rfl⟩ := List.getElem_of_mem hq
    have hg := cps_get s al' 0 i
    rw [List.getElem?_eq_getElem hi] at hg
    cases hq2 : al'[i]? with
    | none => rw [hq2] at hg; cases hg
    | some z =>
      rw [hq2] at hg
      simp only [Option.map_some, Option.some.injEq] at hg
      rw [hg] at ha
      injection ha with ha
      subst ha
      intro e
      injection e with e
      exact h10 e
theorem To.range {w : World} {B hi : Nat} {T : Value} {bl : List OpS} (h : To w B T bl) (h4 : ∀ b ∈ bl, b.o.seen.length = 4) (hw : w.heap.size ≤ hi) : (∀ z, T.ownBlock = some z → B ≤ z ∧ z < hi) ∧ ∀ q ∈ bl, ∀ a, q.A = some a → B ≤ a.block ∧ a.block < hi := by
  refine ⟨fun z hz => ?_, fun q hq a ha => ⟨h.far q hq a ha, ?_⟩⟩
  · have := World.ownsRow.lt h.tg.own z hz
    omega
  · have h1 := h.tg.ok q hq
    have h2 := h1.lt (by rw [← h1.seen.1, h4 q hq]; omega) ha
    omega
/-- A site of the call's own: its elements, then its vector, then what waits, and its log. -/
structure SiteOwn (w : World) (B s : Nat) (x : SiteS) : Prop where
  doc : Oe w B x.dv x.L
  sA : x.sA = some ⟨s, 0, none⟩
  sB : B ≤ s
  vm : Vm w s x.sc x.seen
  ds : ∀ z, x.dv.ownBlock = some z → z < s
  sn : x.seen.length = x.sn
  wait : To w (s + 1) (.slice x.wA x.wn x.wc) x.wl
  wn : x.wl.length = x.wn
  log : To w (s + 1) (.slice x.lA x.ln x.lc) x.ll
  ln : x.ll.length = x.ln
  sep : ∃ m, s + 1 ≤ m ∧ (∀ z, (Value.slice x.wA x.wn x.wc).ownBlock = some z → z < m) ∧ (∀ q ∈ x.wl, ∀ a, q.A = some a → a.block < m) ∧ To w m (.slice x.lA x.ln x.lc) x.ll
theorem To.opsM {w : World} {B : Nat} {A : Option Addr} {n c : Nat} {bl : List OpS} (h : To w B (.slice A n c) bl) (hn : bl.length = n) : OpsM w A n bl ∧ (A = none → n = 0 ∧ c = 0) ∧ n ≤ c := by
  obtain ⟨A', c', e, hM, hb, hc⟩ := own_ops h.tg.own h.tg.ok
  injection e with e1 e2 e3
  subst e1 e3
  rw [hn] at hM hc
  exact ⟨hM, fun hA => ⟨by have := hc.2 hA; have := hc.1; omega, hc.2 hA⟩, hc.1⟩
theorem SiteOwn.ok {w : World} {B s : Nat} {x : SiteS} (h : SiteOwn w B s x) (h1 : I64 x.st) (h2 : I64 x.ck) (h3 : x.L.length ≤ 140737488351232) (h4 : x.sn ≤ 17592186044416) (h5 : x.wn ≤ 140737488351232) (h6 : x.ln ≤ 140737488351232) : SiteOk w x := by
  have hs := h.sA
  have hV := h.vm
  have hle := hV.le
  obtain ⟨hW, hWc, hWn⟩ := h.wait.opsM h.wn
  obtain ⟨hL, hLc, hLn⟩ := h.log.opsM h.ln
  exact ⟨h.doc.se, by rw [hs]; exact hV.nums h.sn, by have := h.sn; omega, hW, hWc, hL, hLc, h3, h4, h5, h6, h1, h2, hWn, hLn⟩
theorem SiteOwn.keep {w w' : World} {B s : Nat} {x : SiteS} (h : SiteOwn w B s x) (hk : Kept (fun _ => False) w w') : SiteOwn w' B s x :=
  ⟨h.doc.kept hk, h.sA, h.sB, h.vm.kept hk id, h.ds, h.sn, h.wait.keep hk, h.wn, h.log.keep hk, h.ln, (by
    obtain ⟨m, h1, h2, h3, h4⟩ := h.sep
    exact ⟨m, h1, h2, h3, h4.keep hk⟩)⟩
set_option maxRecDepth 100000 in
set_option maxHeartbeats 8000000 in
theorem ownsite_any (x : SiteS) (w : World) (hx : SiteOk w x) (hL : x.L.length ≤ 100000) (hs4 : x.seen.length = 4) (hw4 : ∀ b ∈ x.wl, b.o.seen.length = 4) (hl4 : ∀ b ∈ x.ll, b.o.seen.length = 4) (hwn : x.wn ≤ 20000) (hln : x.ln ≤ 20000) :
    Calls Tryd.prog 50 #[x.V] w fun e w' => (∃ (y : SiteS) (s : Nat), e = .returned y.V ∧ SiteOwn w' w.heap.size s y ∧ y.P = x.P) ∧ Kept (fun _ => False) w w' := by
  have hk0 : Kept (fun _ => False) w ((w.alloc x.O).alloc (.cells #[.int .i64 0, .int .i64 0, .slice none 0 0, .slice none 0 0, .slice none 0 0, .slice none 0 0] 46)) := ((Kept.refl _ w).alloc _).alloc _
  have HG : Hid (((w.alloc x.O).alloc (.cells #[.int .i64 0, .int .i64 0, .slice none 0 0, .slice none 0 0, .slice none 0 0, .slice none 0 0] 46)).heap[w.heap.size]? = some x.O) := (heap_alloc_old (w.alloc x.O) _ (by simp)).trans (heap_alloc_new w _)
  have HZ : Hid (((w.alloc x.O).alloc (.cells #[.int .i64 0, .int .i64 0, .slice none 0 0, .slice none 0 0, .slice none 0 0, .slice none 0 0] 46)).heap[w.heap.size + 1]? = some (.cells #[.int .i64 0, .int .i64 0, .slice none 0 0, .slice none 0 0, .slice none 0 0, .slice none 0 0] 46)) := by
    have h := heap_alloc_new (w.alloc x.O) (.cells #[.int .i64 0, .int .i64 0, .slice none 0 0, .slice none 0 0, .slice none 0 0, .slice none 0 0] 46)
    have hs : (w.alloc x.O).heap.size = w.heap.size + 1 := by simp
    rw [hs] at h
    exact h
  have HX := Lib.hid (hx.kept hk0)
  have HXW := Lib.hid hx
  have HK0 := Lib.hid hk0
  obtain ⟨st, ck, dv, L, sA, sn, sc, seen, wA, wn, wc, wl, lA, ln, lc, ll⟩ := x
  simp only [SiteS.V, SiteS.O, SiteS.cs, SiteS.P] at *
  obtain ⟨A, c, hdv, _, _, _⟩ := HX.out.doc.open'
  simp only at hdv
  subst hdv
  have hsn : sn = 4 := by
    have h := HX.out.seen.1
    simp only at h
    omega
  subst hsn
  obtain ⟨sa, y, hsA, _, _⟩ := HX.out.seen.cell (j := 0) (by simp)
  simp only at hsA
  subst hsA
  clear hx hk0
  have HL := Lib.hid hL
  have HS4 := Lib.hid hs4
  have HW4 := Lib.hid hw4
  have HL4 := Lib.hid hl4
  have HWN := Lib.hid hwn
  have HLN := Lib.hid hln
  clear hL hs4 hw4 hl4 hwn hln
  go_enter Tryd.func50, Tryd.ntmps50
  go_upto_region 1 with fail
  obtain ⟨n, hN⟩ : ∃ n, L.length = n := ⟨_, rfl⟩
  have HN := Lib.hid hN
  simp only [hN] at HG HZ HX HXW HK0 HL ⊢
  clear hN
  generalize (w.alloc (.cells #[.int .i64 st, .int .i64 ck, .slice A n c, .slice (some sa) 4 sc, .slice wA wn wc, .slice lA ln lc] 46)).alloc (.cells #[.int .i64 0, .int .i64 0, .slice none 0 0, .slice none 0 0, .slice none 0 0, .slice none 0 0] 46) = w1 at *
  obtain ⟨gz, hgz⟩ : ∃ gz, w.heap.size + 1 = gz := ⟨_, rfl⟩
  obtain ⟨g, hg⟩ : ∃ g, w.heap.size = g := ⟨_, rfl⟩
  have HGG := Lib.hid hg
  have HGZ := Lib.hid hgz
  simp only [hgz] at HZ ⊢
  simp only [hg] at HG ⊢
  clear hgz hg
  obtain ⟨A', c', n', hdE, hAE, hncE, hAN⟩ : ∃ A' c' n', Value.slice A n c = .slice A' n' c' ∧ Eg w1 A' n' L ∧ n' ≤ c' ∧ (A' = none → n' = 0 ∧ c' = 0) := by
    obtain ⟨A', n', c', h1, h2, h3, h4⟩ := HX.out.doc
    exact ⟨A', c', n', h1, h2, h3, h4⟩
  injection hdE with e1 e2 e3
  subst e1 e2 e3
  have cE := eclone_any A n c L w1 hAE hAN HL.out
  obtain ⟨⟨p0, p1, p2, p3, p4, p5⟩, q0, q1, q2, q3, q4, q5⟩ := six_facts HG.out
  clear hAE hncE hAN
  go_upto_region 2 with (go_at_call 43; refine cE.mono ?_; clear cE p0 p1 p2 p3 p4 p5 q0 q1 q2 q3 q4 q5; rintro e w2 ⟨⟨dv, rfl, hdv⟩, hk2⟩; obtain ⟨A2, c2, hv2⟩ := own_form' hdv; subst hv2; have HD2 := Lib.hid hdv; have HK2 := Lib.hid hk2; have HG2 := Lib.hid ((hk2.block g (heap_lt HG.out) id).trans HG.out); clear hdv hk2; obtain ⟨⟨p0, p1, p2, p3, p4, p5⟩, q0, q1, q2, q3, q4, q5⟩ := six_facts HG2.out)
  have HG3 : Hid ((w2.setCell ⟨g, 2, none⟩ (.slice A2 n c2)).heap[g]? = some (.cells #[.int .i64 st, .int .i64 ck, .slice A2 n c2, .slice (some sa) 4 sc, .slice wA wn wc, .slice lA ln lc] 46 (0, 0))) := heap_set HG2.out _
  have hk3 : Kept (fun q => q = g) w2 (w2.setCell ⟨g, 2, none⟩ (.slice A2 n c2)) := (Kept.refl (fun q => q = g) w2).setCell (p := ⟨g, 2, none⟩) rfl _
  have HK3 := Lib.hid hk3
  clear p0 p1 p2 p3 p4 p5 q0 q1 q2 q3 q4 q5 hk3
  generalize w2.setCell ⟨g, 2, none⟩ (.slice A2 n c2) = w3 at *
  have HSZ1 : Hid (gz < w1.heap.size ∧ g < gz) := ⟨heap_lt HZ.out, by have := HGG.out; have := HGZ.out; omega⟩
  have HFR : Hid (∀ a b, Kept (fun _ => False) w a → Kept (fun q => q = g) a b → Kept (fun _ => False) w b) := by
    show ∀ a b, _
    intro a b h1 h2
    exact h1.fresh h2 (fun q hq e => by have e : q = g := e; have := HGG.out; omega)
  have HKW3 := Lib.hid (HFR.out _ _ (HK0.out.trans HK2.out) HK3.out)
  have HXI := Lib.hid (HXW.out.kept HKW3.out)
  have cS := iclone_any sa 4 sc seen w3 HXI.out.seen (by omega)
  obtain ⟨⟨p0, p1, p2, p3, p4, p5⟩, q0, q1, q2, q3, q4, q5⟩ := six_facts HG3.out
  go_upto_region 3 with (go_at_call 77; refine cS.mono ?_; clear cS p0 p1 p2 p3 p4 p5 q0 q1 q2 q3 q4 q5; rintro e w4 ⟨⟨sb, cap, rfl, hvm, hsb⟩, hk4⟩; have HV4 := Lib.hid hvm; have HSB := Lib.hid hsb; have HK4 := Lib.hid hk4; have HG4 := Lib.hid ((hk4.block g (heap_lt HG3.out) id).trans HG3.out); clear hvm hsb hk4; obtain ⟨⟨p0, p1, p2, p3, p4, p5⟩, q0, q1, q2, q3, q4, q5⟩ := six_facts HG4.out)
  have HG5 : Hid ((w4.setCell ⟨g, 3, none⟩ (.slice (some ⟨sb, 0, none⟩) 4 cap)).heap[g]? = some (.cells #[.int .i64 st, .int .i64 ck, .slice A2 n c2, .slice (some ⟨sb, 0, none⟩) 4 cap, .slice wA wn wc, .slice lA ln lc] 46 (0, 0))) := heap_set HG4.out _
  have hk5 : Kept (fun q => q = g) w4 (w4.setCell ⟨g, 3, none⟩ (.slice (some ⟨sb, 0, none⟩) 4 cap)) := (Kept.refl (fun q => q = g) w4).setCell (p := ⟨g, 3, none⟩) rfl _
  have HK5 := Lib.hid hk5
  clear p0 p1 p2 p3 p4 p5 q0 q1 q2 q3 q4 q5 hk5 HXI
  generalize w4.setCell ⟨g, 3, none⟩ (.slice (some ⟨sb, 0, none⟩) 4 cap) = w5 at *
  have HKW5 := Lib.hid (HFR.out _ _ (HKW3.out.trans HK4.out) HK5.out)
  have HXI := Lib.hid (HXW.out.kept HKW5.out)
  have cW := ownops_any wA wn wc wl w5 HXI.out.wait HXI.out.wcap HWN.out HW4.out
  obtain ⟨⟨p0, p1, p2, p3, p4, p5⟩, q0, q1, q2, q3, q4, q5⟩ := six_facts HG5.out
  go_upto_region 4 with (go_at_call 54; refine cW.mono ?_; clear cW p0 p1 p2 p3 p4 p5 q0 q1 q2 q3 q4 q5; rintro e w6 ⟨hret, hk6⟩; obtain ⟨A3, c3, bl3, he3, hto, hlen, ho⟩ := opsret_to hret; subst he3; have HTO6 := Lib.hid hto; have HLE6 := Lib.hid hlen; have HO6 := Lib.hid ho; have HK6 := Lib.hid hk6; have HG6 := Lib.hid ((hk6.block g (heap_lt HG5.out) id).trans HG5.out); clear hto hlen ho hret hk6; obtain ⟨⟨p0, p1, p2, p3, p4, p5⟩, q0, q1, q2, q3, q4, q5⟩ := six_facts HG6.out)
  have HG7 : Hid ((w6.setCell ⟨g, 4, none⟩ (.slice A3 wn c3)).heap[g]? = some (.cells #[.int .i64 st, .int .i64 ck, .slice A2 n c2, .slice (some ⟨sb, 0, none⟩) 4 cap, .slice A3 wn c3, .slice lA ln lc] 46 (0, 0))) := heap_set HG6.out _
  have hk7 : Kept (fun q => q = g) w6 (w6.setCell ⟨g, 4, none⟩ (.slice A3 wn c3)) := (Kept.refl (fun q => q = g) w6).setCell (p := ⟨g, 4, none⟩) rfl _
  have HK7 := Lib.hid hk7
  clear p0 p1 p2 p3 p4 p5 q0 q1 q2 q3 q4 q5 hk7 HXI
  generalize w6.setCell ⟨g, 4, none⟩ (.slice A3 wn c3) = w7 at *
  have HKW7 := Lib.hid (HFR.out _ _ (HKW5.out.trans HK6.out) HK7.out)
  have HXI := Lib.hid (HXW.out.kept HKW7.out)
  have cL := ownops_any lA ln lc ll w7 HXI.out.log HXI.out.lcap HLN.out HL4.out
  obtain ⟨⟨p0, p1, p2, p3, p4, p5⟩, q0, q1, q2, q3, q4, q5⟩ := six_facts HG7.out
  go_upto_region 5 with (go_at_call 54; refine cL.mono ?_; clear cL p0 p1 p2 p3 p4 p5 q0 q1 q2 q3 q4 q5; rintro e w8 ⟨hret, hk8⟩; obtain ⟨A4, c4, bl4, he4, hto, hlen, ho⟩ := opsret_to hret; subst he4; have HTO8 := Lib.hid hto; have HLE8 := Lib.hid hlen; have HO8 := Lib.hid ho; have HK8 := Lib.hid hk8; have HG8 := Lib.hid ((hk8.block g (heap_lt HG7.out) id).trans HG7.out); clear hto hlen ho hret hk8; obtain ⟨⟨p0, p1, p2, p3, p4, p5⟩, q0, q1, q2, q3, q4, q5⟩ := six_facts HG8.out)
  have HG9 : Hid ((w8.setCell ⟨g, 5, none⟩ (.slice A4 ln c4)).heap[g]? = some (.cells #[.int .i64 st, .int .i64 ck, .slice A2 n c2, .slice (some ⟨sb, 0, none⟩) 4 cap, .slice A3 wn c3, .slice A4 ln c4] 46 (0, 0))) := heap_set HG8.out _
  have hk9 : Kept (fun q => q = g) w8 (w8.setCell ⟨g, 5, none⟩ (.slice A4 ln c4)) := (Kept.refl (fun q => q = g) w8).setCell (p := ⟨g, 5, none⟩) rfl _
  have HK9 := Lib.hid hk9
  clear p0 p1 p2 p3 p4 p5 q0 q1 q2 q3 q4 q5 hk9 HXI
  generalize w8.setCell ⟨g, 5, none⟩ (.slice A4 ln c4) = w9 at *
  have HK89 := Lib.hid (HK8.out.any.trans HK9.out)
  have HK69 := Lib.hid (HK7.out.trans HK89.out)
  have HK49 := Lib.hid (HK5.out.trans (HK6.out.any.trans HK69.out))
  have HK29 := Lib.hid (HK3.out.trans (HK4.out.any.trans HK49.out))
  have HZ9 := Lib.hid (((HK2.out.any.trans HK29.out).block gz HSZ1.out.1 (fun e => by have e : gz = g := e; have := HSZ1.out; omega)).trans HZ.out)
  obtain ⟨⟨p0, p1, p2, p3, p4, p5⟩, q0, q1, q2, q3, q4, q5⟩ := six_facts HG9.out
  obtain ⟨⟨x0, x1, x2, x3, x4, x5⟩, y0, y1, y2, y3, y4, y5⟩ := six_facts HZ9.out
  go_wp2_with fail
  have hkz : Kept (fun q => q = gz) w9 _ := Kept.six (Kept.refl (fun q => q = gz) w9) rfl (.int .i64 st) (.int .i64 ck) (.slice A2 n c2) (.slice (some ⟨sb, 0, none⟩) 4 cap) (.slice A3 wn c3) (.slice A4 ln c4)
  have z1 := HSZ1.out
  have z2 := HK2.out.size
  have z3 := HK3.out.size
  have z4 := HK4.out.size
  have z5 := HK5.out.size
  have z6 := HK6.out.size
  have z7 := HK7.out.size
  have zs := HSB.out
  have zv := HV4.out.lt
  have zg := HGG.out
  refine bodyPost_ret (res_site rfl _ _ gz _ _ _ _ _ _ (0, 0) rfl (six_set HZ9.out _ _ _ _ _ _)) rfl ⟨⟨⟨st, ck, .slice A2 n c2, L, some ⟨sb, 0, none⟩, 4, cap, seen, A3, wn, c3, bl3, A4, ln, c4, bl4⟩, sb, rfl, ⟨?_, rfl, by omega, ?_, ?_, HS4.out, ?_, ?_, ?_, ?_, ?_⟩, ?_⟩, ?_⟩
  · have h1 : Oe w2 w1.heap.size (.slice A2 n c2) L := by unfold Oe; rw [HN.out]; exact HD2.out
    refine ((h1.keptS HK29.out (fun k hk e => ?_)).keptS hkz (fun k hk e => ?_)).mono (by omega)
    · have e : k = g := e
      have := (h1.lt k hk).1
      omega
    · have e : k = gz := e
      have := (h1.lt k hk).1
      omega
  · exact (HV4.out.kept HK49.out (fun e => by have e : sb = g := e; omega)).kept hkz (fun e => by have e : sb = gz := e; omega)
  · intro z hz
    have h1 := (World.ownsRow.lt HD2.out z hz).2
    omega
  · exact ((HTO6.out.keepS HK69.out (fun q hq e => by have e : q = g := e; omega)).keepS hkz (fun q hq e => by have e : q = gz := e; omega)).mono (by omega)
  · exact HLE6.out
  · exact ((HTO8.out.keepS HK9.out (fun q hq e => by have e : q = g := e; omega)).keepS hkz (fun q hq e => by have e : q = gz := e; omega)).mono (by omega)
  · exact HLE8.out
  · have hr := HTO6.out.range (hi := w7.heap.size) (fun b hb => by
      have h1 : b.o ∈ bl3.map (·.o) := List.mem_map.2 ⟨b, hb, rfl⟩
      rw [HO6.out] at h1
      obtain ⟨q, hq, e⟩ := List.mem_map.1 h1
      rw [← e]; exact HW4.out q hq) z7
    exact ⟨w7.heap.size, by omega, fun z hz => (hr.1 z hz).2, fun q hq a ha => (hr.2 q hq a ha).2, (HTO8.out.keepS HK9.out (fun q hq e => by have e : q = g := e; omega)).keepS hkz (fun q hq e => by have e : q = gz := e; omega)⟩
  · simp only [HO6.out, HO8.out]
  · exact (HFR.out _ _ (HKW7.out.trans HK8.out) HK9.out).fresh hkz (fun q hq e => by have e : q = gz := e; omega)
end Go.Proofs.YthkohjijppbliaaDoor
