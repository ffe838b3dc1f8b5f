/-
  A TREE OF ROWS: the node of a row, and what stands ahead of it.
-/
import Derived.Test.YtdgbaeliabaneaaDoorRoI
import Derived.Deep.LoopGhost
import Derived.Deep.RegionLaw
set_option linter.unusedVariables false
namespace Go.Proofs.YtdgbaeliabaneaaDoor
open Go Go.RowKit

theorem res_ct {fn : Func} {p u : Tmp} (h : fn.results = #[.cell p 69, .tmp u]) (tmps : Array Value) (w : World) (g : Nat) (a b c : Int) (hp : tmps.getD p undef = .pointer (some ⟨g, 0, none⟩)) (hg : w.heap[g]? = some (sumsO a b c)) :
    (results fn tmps).run Tryd.prog w = .ok (.tuple #[sumsV a b c, tmps.getD u undef]) w := by
  rw [results_cell_tmp h, hp]
  simp [asAddr, Result.andThen, run_loadVar_row w g _ _ _ _ _ hg Tryd.underlying69 rfl (by kernel_rfl)]
/-- What only touches blocks of another type leaves a tree. -/
theorem TrM.keptT {S X : Nat → Prop} {W W' : World} (hk : Kept S W W') (hs : ∀ q, S q → W.heap.size ≤ q ∨ ∃ cs ty f, W.heap[q]? = some (.cells cs ty f) ∧ ty ≠ 73) : ∀ {t : Tr} {v : Value}, TrM W X v t → TrM W' X v t
  | .nil, v, h => h
  | .node l s r, v, h => by
    obtain ⟨b, vl, vr, e, hx, hb, hl, hr⟩ := h
    refine ⟨b, vl, vr, e, hx, (hk.block b (heap_lt hb) (fun h => ?_)).trans hb, TrM.keptT hk hs hl, TrM.keptT hk hs hr⟩
    rcases hs b h with h1 | ⟨cs, ty, f, h1, h2⟩
    · have := heap_lt hb; omega
    · exact block_ne hb h1 (fun e => h2 e.symm) rfl
theorem field0 (a b c : Int) (w : World) : (Instr.field 69 (sumsV a b c) 0).run Tryd.prog w = .ok (.int .i64 a) w := by kernel_rfl
theorem field1 (a b c : Int) (w : World) : (Instr.field 69 (sumsV a b c) 1).run Tryd.prog w = .ok (.int .i64 b) w := by kernel_rfl
theorem field2 (a b c : Int) (w : World) : (Instr.field 69 (sumsV a b c) 2).run Tryd.prog w = .ok (.int .i64 c) w := by kernel_rfl
/-- On the way to a row. -/
structure Fnd (w wx : World) (X : Nat → Prop) (tb : Nat) (t : Tr) (i : Nat) (v : Value) (t' : Tr) (pre post : List ByteArray) (i' : Nat) : Prop where
  tm : TrM wx X v t'
  kp : Kept (fun _ => False) w wx
  bx : wx.heap[tb]? = some (sumsO (pre.length : Nat) (byL pre : Nat) (ruL pre : Nat))
  rw : t.rows = pre ++ (t'.rows ++ post)
  ix : i = pre.length + i'
  lt : i' < t'.size ∨ (i' = t'.size ∧ post = [])
theorem Fnd.okp {w wx : World} {X : Nat → Prop} {tb : Nat} {t : Tr} {i : Nat} {v : Value} {t' : Tr} {pre post : List ByteArray} {i' : Nat} (h : Fnd w wx X tb t i v t' pre post i') (hO : t.Ok) : OkL (pre ++ t'.rows) := by
  have h1 := t.ok_rows.1 hO
  rw [h.rw, ← List.append_assoc] at h1
  exact h1.left
theorem Fnd.left {w wx wy : World} {X : Nat → Prop} {tb : Nat} {t : Tr} {i : Nat} {v v' : Value} {l r : Tr} {s : ByteArray} {pre post : List ByteArray} {i' : Nat} (h : Fnd w wx X tb t i v (.node l s r) pre post i') (hv : TrM wx X v' l) (hk : Kept (fun _ => False) wx wy) (hi : i' < l.size) : Fnd w wy X tb t i v' l pre (s :: r.rows ++ post) i' :=
  ⟨hv.keptF hk, h.kp.trans hk, (hk.block _ (heap_lt h.bx) id).trans h.bx, by rw [h.rw]; simp [Tr.rows], h.ix, .inl hi⟩
theorem Fnd.right {w wx wy : World} {X : Nat → Prop} {tb : Nat} {t : Tr} {i : Nat} {v v' : Value} {l r : Tr} {s : ByteArray} {pre post : List ByteArray} {i' j : Nat} (h : Fnd w wx X tb t i v (.node l s r) pre post i') (hv : TrM wy X v' r) (hk : Kept (fun _ => False) w wy) (hb : wy.heap[tb]? = some (sumsO (pre.length + l.size + 1 : Nat) (byL pre + l.by_ + s.size : Nat) (ruL pre + l.ru + (rs s).length : Nat))) (hi : i' = l.size + 1 + j) : Fnd w wy X tb t i v' r (pre ++ (l.rows ++ [s])) post j := by
  refine ⟨hv, hk, ?_, by rw [h.rw]; simp [Tr.rows], ?_, ?_⟩
  · rw [hb]
    have e1 : (pre ++ (l.rows ++ [s])).length = pre.length + l.size + 1 := by rw [l.size_rows]; simp; omega
    have e2 : byL (pre ++ (l.rows ++ [s])) = byL pre + l.by_ + s.size := by rw [byL_app, byL_app, l.by_rows]; simp [byL]; omega
    have e3 : ruL (pre ++ (l.rows ++ [s])) = ruL pre + l.ru + (rs s).length := by rw [ruL_app, ruL_app, l.ru_rows]; simp [ruL]; omega
    rw [e1, e2, e3]
  · have := h.ix; rw [List.length_append, List.length_append, ← l.size_rows]; simp only [List.length_cons, List.length_nil]; omega
  · rcases h.lt with h1 | ⟨h1, h2⟩
    · exact .inl (by simp only [Tr.size] at h1; omega)
    · exact .inr ⟨by simp only [Tr.size] at h1; omega, h2⟩
/-- What find tells. -/
def Found (w w' : World) (t : Tr) (i : Nat) (e : Ending) : Prop := ∃ p : Value, e = .returned (.tuple #[sumsV (i : Nat) (byL (t.rows.take i) : Nat) (ruL (t.rows.take i) : Nat), p]) ∧ (∃ q, p = .pointer q) ∧ (∀ s, t.rows[i]? = some s → ∃ b, p = .pointer (some ⟨b, 0, none⟩) ∧ w'.cell? ⟨b, 0, none⟩ = some (.string s)) ∧ Kept (fun _ => False) w w'
theorem Fnd.hit {w wx wy : World} {X : Nat → Prop} {tb b : Nat} {t : Tr} {i : Nat} {l r : Tr} {s : ByteArray} {pre post : List ByteArray} {i' : Nat} (h : Fnd w wx X tb t i (.pointer (some ⟨b, 0, none⟩)) (.node l s r) pre post i') (hi : i' = l.size) (hk : Kept (fun _ => False) w wy) (hs : wy.cell? ⟨b, 0, none⟩ = some (.string s)) :
    Found w wy t i (.returned (.tuple #[sumsV (pre.length + l.size : Nat) (byL pre + l.by_ : Nat) (ruL pre + l.ru : Nat), .pointer (some ⟨b, 0, none⟩)])) := by
  have hix := h.ix
  have e0 : t.rows = (pre ++ l.rows) ++ (s :: (r.rows ++ post)) := by rw [h.rw]; simp [Tr.rows]
  have e1 : (pre ++ l.rows).length = i := by rw [List.length_append, ← l.size_rows]; omega
  have e2 : t.rows.take i = pre ++ l.rows := by rw [e0, ← e1, List.take_left']; rfl
  refine ⟨.pointer (some ⟨b, 0, none⟩), ?_, ⟨some ⟨b, 0, none⟩, rfl⟩, fun s' hs' => ⟨b, rfl, ?_⟩, hk⟩
  · rw [e2, byL_app, ruL_app, ← l.by_rows, ← l.ru_rows, show i = pre.length + l.size by omega]
  · rw [e0, ← e1, List.getElem?_append_right (Nat.le_refl _), Nat.sub_self] at hs'
    simp only [List.getElem?_cons_zero, Option.some.injEq] at hs'
    rw [← hs']; exact hs
theorem Fnd.miss {w wx wy : World} {X : Nat → Prop} {tb : Nat} {t : Tr} {i : Nat} {v : Value} {pre post : List ByteArray} {i' : Nat} (h : Fnd w wx X tb t i v .nil pre post i') (hk : Kept (fun _ => False) w wy) : i' = 0 ∧
    Found w wy t i (.returned (.tuple #[sumsV (pre.length : Nat) (byL pre : Nat) (ruL pre : Nat), .pointer none])) := by
  have hix := h.ix
  have hl := h.lt
  simp only [Tr.size] at hl
  obtain ⟨h0, hp⟩ : i' = 0 ∧ post = [] := by rcases hl with h1 | h1; exact absurd h1 (by omega); exact h1
  have e0 : t.rows = pre := by rw [h.rw, hp]; simp [Tr.rows]
  have e1 : i = pre.length := by omega
  refine ⟨h0, .pointer none, ?_, ⟨none, rfl⟩, fun s' hs' => ?_, hk⟩
  · rw [e0, e1, List.take_length]
  · rw [e0, e1, List.getElem?_eq_none (Nat.le_refl _)] at hs'; cases hs'
set_option maxRecDepth 100000 in
set_option maxHeartbeats 4000000 in
theorem find_any (t : Tr) (v : Value) (i : Nat) (X : Nat → Prop) (w : World) (h : TrM w X v t) (hi : i ≤ t.size) (hO : t.Ok) :
    Calls Tryd.prog 38 #[v, .int .i64 i] w fun e w' => Found w w' t i e := by
  have hk0 : Kept (fun _ => False) w (w.alloc (sumsO 0 0 0)) := (Kept.refl _ w).alloc _
  have HF0 : Hid (Fnd w (w.alloc (sumsO 0 0 0)) X w.heap.size t i v t [] [] i) := ⟨h.keptF hk0, hk0, heap_alloc_new w _, by simp, by simp, by rcases Nat.lt_or_eq_of_le hi with h1 | h1; exact .inl h1; exact .inr ⟨h1, rfl⟩⟩
  have HO := Lib.hid hO
  have hsz := hO.si
  clear hk0 h hO
  go_enter Tryd.func38, Tryd.ntmps38
  go_upto_region 1 with fail
  simp only [sumsO] at HF0
  generalize w.alloc _ = w0 at *
  obtain ⟨tb, htb⟩ : ∃ tb, w.heap.size = tb := ⟨_, rfl⟩
  have HTB := Lib.hid htb
  simp only [htb] at HF0 ⊢
  clear htb
  go_loopg [0, 1] t.size (fun g v0 v1 wx => ∃ (t' : Tr) (pre post : List ByteArray) (i' : Nat), t'.size ≤ g ∧ v1 = .int .i64 i' ∧ Fnd w wx X tb t i v0 t' pre post i')
  case atStart => exact ⟨t, [], [], i, Nat.le_refl _, rfl, HF0.out⟩
  case round =>
    obtain ⟨t', pre, post, i', hg, rfl, hF⟩ := hrel
    have HF := Lib.hid hF
    cases t' with
    | nil =>
      have hvn := hF.tm
      simp only [TrM] at hvn
      subst hvn
      obtain ⟨p0, p1, p2, p3, p4, p5⟩ := sums_facts hF.bx
      obtain ⟨n1, hn1⟩ : ∃ n, pre.length = n := ⟨_, rfl⟩
      obtain ⟨n2, hn2⟩ : ∃ n, byL pre = n := ⟨_, rfl⟩
      obtain ⟨n3, hn3⟩ : ∃ n, ruL pre = n := ⟨_, rfl⟩
      have HN : Hid (∀ wy, Kept (fun _ => False) w wy → Found w wy t i (.returned (.tuple #[sumsV (n1 : Nat) (n2 : Nat) (n3 : Nat), .pointer none]))) := by rw [← hn1, ← hn2, ← hn3]; exact fun wy hk => (HF.out.miss hk).2
      have HBX := Lib.hid hF.bx
      rw [hn1] at p0 HBX
      rw [hn2] at p1 HBX
      rw [hn3] at p2 HBX
      clear hn1 hn2 hn3 hF hg hsz
      go_wp2
      refine bodyPost_ret (res_ct rfl _ _ tb n1 n2 n3 rfl (sums_set HBX.out _ _ _)) rfl ?_
      exact HN.out _ (HF.out.kp.fresh (Kept.sums (g := tb) (S := fun q => q = tb) (Kept.refl (fun q => q = tb) _) rfl _ _ _) (fun q h1 h2 => by have := HTB.out; omega))
    | node l s r =>
      obtain ⟨b, vl, vr, hve, hx, hb, hl, hr⟩ := hF.tm
      subst hve
      obtain ⟨pl, rfl⟩ := hl.ptr
      obtain ⟨pr, rfl⟩ := hr.ptr
      have f0 : wr.cell? ⟨b, 0, none⟩ = some (.string s) := cell_of_row _ _ _ _ _ _ hb
      have f1 : wr.cell? ⟨b, 1, none⟩ = some (.pointer pl) := cell_of_row _ _ _ _ _ _ hb
      have f2 : wr.cell? ⟨b, 2, none⟩ = some (.pointer pr) := cell_of_row _ _ _ _ _ _ hb
      have hok := hF.okp HO.out
      have k1 := hok.si
      have k2 := hok.by_
      have k3 := hok.ru
      rw [List.length_append, ← Tr.size_rows] at k1
      rw [byL_app, ← Tr.by_rows] at k2
      rw [ruL_app, ← Tr.ru_rows] at k3
      simp only [Tr.size, Tr.by_, Tr.ru] at k1 k2 k3
      have hsm := (Tr.sm_rows (.node l s r)).2 (fun x hx => hok.sm x (List.mem_append_right _ hx))
      have hs1 : s.size ≤ 1000000 := hsm.2.2.1
      have hs2 : (rs s).length ≤ 1000000 := hsm.2.2.2
      have HL := Lib.hid hl
      have HR := Lib.hid hr
      have hbt : b ≠ tb := block_ne hb hF.bx (by decide)
      have cS := sum_any l (.pointer pl) X wr hl
      have hfl := fun W => field0 (l.size : Nat) (l.by_ : Nat) (l.ru : Nat) W
      have KF : Hid (∀ W, Kept (fun q => q = tb) wr W → W.cell? ⟨b, 0, none⟩ = some (.string s) ∧ W.cell? ⟨b, 1, none⟩ = some (.pointer pl) ∧ W.cell? ⟨b, 2, none⟩ = some (.pointer pr)) := fun W hk => ⟨cell_kept hk f0 hbt, cell_kept hk f1 hbt, cell_kept hk f2 hbt⟩
      have HBF : Hid (∀ W, Kept (fun _ => False) wr W → W.heap[tb]? = some (sumsO (pre.length : Nat) (byL pre : Nat) (ruL pre : Nat))) := fun W hk => (hk.block _ (heap_lt HF.out.bx) id).trans HF.out.bx
      clear hl hr hb hF hok hsm f0 f2
      obtain ⟨g', rfl⟩ : ∃ g', gk = g' + 1 := ⟨gk - 1, by simp only [Tr.size] at hg; omega⟩
      simp only [Tr.size] at hg
      rcases Nat.lt_trichotomy i' l.size with hlt | heq | hgt
      · have d1 : ((i' : Int) == (l.size : Int)) = false := by rw [beq_eq_false_iff_ne]; omega
        have d2 : decide ((i' : Int) < (l.size : Int)) = true := decide_eq_true (by omega)
        go_wp2_with (go_at_call 39; refine cS.mono ?_; rintro e w1 ⟨rfl, hk1⟩; have HK1 := Lib.hid hk1; have f1 := (KF.out w1 HK1.out.any).2.1; clear hk1 cS)
        go_roundg g'
        case measure => omega
        case rel => exact ⟨l, pre, _, i', by omega, rfl, HF.out.left HL.out HK1.out hlt⟩
      · subst heq
        have d1 : ((l.size : Int) == (l.size : Int)) = true := by rw [beq_iff_eq]
        have HN : Hid (∀ wy, Kept (fun _ => False) w wy → wy.cell? ⟨b, 0, none⟩ = some (.string s) → Found w wy t i (.returned (.tuple #[sumsV (pre.length + l.size : Nat) (byL pre + l.by_ : Nat) (ruL pre + l.ru : Nat), .pointer (some ⟨b, 0, none⟩)]))) := fun wy hk hs => HF.out.hit rfl hk hs
        have HPA : Hid (∀ W : World, Calls Tryd.prog 46 #[sumsV (pre.length : Nat) (byL pre : Nat) (ruL pre : Nat), sumsV (l.size : Nat) (l.by_ : Nat) (l.ru : Nat)] W fun e w' => e = .returned (sumsV (pre.length + l.size : Nat) (byL pre + l.by_ : Nat) (ruL pre + l.ru : Nat)) ∧ Kept (fun _ => False) W w') := fun W => plus_any pre.length (byL pre) (ruL pre) l.size l.by_ l.ru W (by omega) (by omega)
        obtain ⟨a1, ha1⟩ : ∃ n, pre.length + l.size = n := ⟨_, rfl⟩
        obtain ⟨a2, ha2⟩ : ∃ n, byL pre + l.by_ = n := ⟨_, rfl⟩
        obtain ⟨a3, ha3⟩ : ∃ n, ruL pre + l.ru = n := ⟨_, rfl⟩
        rw [ha1, ha2, ha3] at HN HPA
        clear ha1 ha2 ha3 hg k1 k2 k3
        go_upto_region 4 with (go_at_call 39; refine cS.mono ?_; rintro e w1 ⟨rfl, hk1⟩; have HK1 := Lib.hid hk1; clear hk1 cS)
        obtain ⟨p0, p1, p2, _⟩ := sums_facts (HBF.out w1 HK1.out)
        have f3 := (KF.out w1 HK1.out.any).2.1
        have cS2 := sum_any l (.pointer pl) X w1.drew (HL.out.keptF HK1.out.drew)
        have HD1 : Hid (Kept (fun _ => False) w1 w1.drew) := (Kept.refl _ w1).drew
        go_region_law (first
          | (go_simp; go_at_call 39; refine cS2.mono ?_; rintro e w2 ⟨rfl, hk2⟩; have HK2 := Lib.hid (HK1.out.trans (HD1.out.trans hk2)); obtain ⟨q0, q1, q2, _⟩ := sums_facts (HBF.out w2 HK2.out); clear hk2 cS2; have cP := HPA.out w2)
          | (go_simp; go_at_call 46; refine cP.mono ?_; rintro e w3 ⟨rfl, hk3⟩; have HK3 := Lib.hid (HK2.out.trans hk3); obtain ⟨_, _, _, r3, r4, r5⟩ := sums_facts (HBF.out w3 HK3.out); clear hk3 cP))
        all_goals
          have HB3 := HBF.out w3 HK3.out
          go_wp2_with fail
          refine bodyPost_ret (res_ct rfl _ _ tb a1 a2 a3 rfl (sums_set HB3 _ _ _)) rfl ?_
          have hks : Kept (fun q => q = tb) w3 (((w3.setCell ⟨tb, 0, none⟩ (.int .i64 a1)).setCell ⟨tb, 1, none⟩ (.int .i64 a2)).setCell ⟨tb, 2, none⟩ (.int .i64 a3)) := Kept.sums (g := tb) (S := fun q => q = tb) (Kept.refl (fun q => q = tb) _) rfl _ _ _
          exact HN.out _ ((HF.out.kp.trans HK3.out).fresh hks (fun q h1 h2 => by have := HTB.out; omega)) (KF.out _ ((HK3.out.any (S := fun q => q = tb)).trans hks)).1
      · obtain ⟨j, hj⟩ : ∃ j, i' = l.size + 1 + j := ⟨i' - l.size - 1, by omega⟩
        have d1 : ((i' : Int) == (l.size : Int)) = false := by rw [beq_eq_false_iff_ne]; omega
        have d2 : decide ((i' : Int) < (l.size : Int)) = false := decide_eq_false (by omega)
        have d3 : decide (i' < l.size) = false := decide_eq_false (by omega)
        have d4 : ¬ i' < l.size := by omega
        have hij : i' ≤ 100000000 := by have := HF.out.lt; simp only [Tr.size] at this; omega
        have t1 : IntKind.i64.wrap ((l.size : Int) + 1) = (l.size : Int) + 1 := IntWalk.i64_in _ ⟨by omega, by omega⟩
        have t2 : IntKind.i64.wrap ((i' : Int) - ((l.size : Int) + 1)) = (j : Int) := by rw [show (i' : Int) - ((l.size : Int) + 1) = (j : Int) by omega]; exact IntWalk.i64_in _ ⟨by omega, by omega⟩
        have HPA : Hid (∀ W : World, Calls Tryd.prog 46 #[sumsV (pre.length : Nat) (byL pre : Nat) (ruL pre : Nat), sumsV (l.size : Nat) (l.by_ : Nat) (l.ru : Nat)] W fun e w' => e = .returned (sumsV (pre.length + l.size : Nat) (byL pre + l.by_ : Nat) (ruL pre + l.ru : Nat)) ∧ Kept (fun _ => False) W w') := fun W => plus_any pre.length (byL pre) (ruL pre) l.size l.by_ l.ru W (by omega) (by omega)
        have HPB : Hid (∀ W : World, Calls Tryd.prog 46 #[sumsV (pre.length + l.size : Nat) (byL pre + l.by_ : Nat) (ruL pre + l.ru : Nat), sumsV 1 (s.size : Nat) ((rs s).length : Nat)] W fun e w' => e = .returned (sumsV (pre.length + l.size + 1 : Nat) (byL pre + l.by_ + s.size : Nat) (ruL pre + l.ru + (rs s).length : Nat)) ∧ Kept (fun _ => False) W w') := fun W => plus_any (pre.length + l.size) (byL pre + l.by_) (ruL pre + l.ru) 1 s.size (rs s).length W (by omega) (by omega)
        have HRT : Hid (∀ wy, TrM wy X (.pointer pr) r → Kept (fun _ => False) w wy → wy.heap[tb]? = some (sumsO (pre.length + l.size + 1 : Nat) (byL pre + l.by_ + s.size : Nat) (ruL pre + l.ru + (rs s).length : Nat)) → Fnd w wy X tb t i (.pointer pr) r (pre ++ (l.rows ++ [s])) post j) := fun wy hv hk hb => HF.out.right hv hk hb hj
        obtain ⟨c1, hc1⟩ : ∃ n, pre.length + l.size + 1 = n := ⟨_, rfl⟩
        obtain ⟨c2, hc2⟩ : ∃ n, byL pre + l.by_ + s.size = n := ⟨_, rfl⟩
        obtain ⟨c3, hc3⟩ : ∃ n, ruL pre + l.ru + (rs s).length = n := ⟨_, rfl⟩
        rw [hc1, hc2, hc3] at HPB HRT
        obtain ⟨a1, ha1⟩ : ∃ n, pre.length + l.size = n := ⟨_, rfl⟩
        obtain ⟨a2, ha2⟩ : ∃ n, byL pre + l.by_ = n := ⟨_, rfl⟩
        obtain ⟨a3, ha3⟩ : ∃ n, ruL pre + l.ru = n := ⟨_, rfl⟩
        rw [ha1, ha2, ha3] at HPA HPB
        clear ha1 ha2 ha3 hc1 hc2 hc3 k1 k2 k3 hij hgt hj
        go_upto_region 7 with (go_at_call 39; refine cS.mono ?_; rintro e w1 ⟨rfl, hk1⟩; have HK1 := Lib.hid hk1; clear hk1 cS)
        obtain ⟨p0, p1, p2, _⟩ := sums_facts (HBF.out w1 HK1.out)
        have f3 := (KF.out w1 HK1.out.any).2.1
        have cS2 := sum_any l (.pointer pl) X w1.drew (HL.out.keptF HK1.out.drew)
        have HD1 : Hid (Kept (fun _ => False) w1 w1.drew) := (Kept.refl _ w1).drew
        go_region_law (first
          | (go_simp; go_at_call 39; refine cS2.mono ?_; rintro e w2 ⟨rfl, hk2⟩; have HK2 := Lib.hid (HK1.out.trans (HD1.out.trans hk2)); obtain ⟨q0, q1, q2, _⟩ := sums_facts (HBF.out w2 HK2.out); clear hk2 cS2; have cP := HPA.out w2)
          | (go_simp; go_at_call 46; refine cP.mono ?_; rintro e w3 ⟨rfl, hk3⟩; have HK3 := Lib.hid (HK2.out.trans hk3); clear hk3 cP; have cO := own_any b s w3 (KF.out w3 HK3.out.any).1 hs1)
          | (go_simp; go_at_call 47; refine cO.mono ?_; rintro e w4 ⟨rfl, hk4⟩; have HK4 := Lib.hid (HK3.out.trans hk4); clear hk4 cO; have cQ := HPB.out w4)
          | (go_simp; go_at_call 46; refine cQ.mono ?_; rintro e w5 ⟨rfl, hk5⟩; have HK5 := Lib.hid (HK4.out.trans hk5); obtain ⟨_, _, _, r3, r4, r5⟩ := sums_facts (HBF.out w5 HK5.out); clear hk5 cQ))
        all_goals
          have HB5 := HBF.out w5 HK5.out
          have hks : Kept (fun q => q = tb) w5 (((w5.setCell ⟨tb, 0, none⟩ (.int .i64 c1)).setCell ⟨tb, 1, none⟩ (.int .i64 c2)).setCell ⟨tb, 2, none⟩ (.int .i64 c3)) := Kept.sums (g := tb) (S := fun q => q = tb) (Kept.refl (fun q => q = tb) _) rfl _ _ _
          have f6 := (KF.out _ ((HK5.out.any (S := fun q => q = tb)).trans hks)).2.2
          have HKS := Lib.hid hks
          have HBS := Lib.hid (sums_set HB5 c1 c2 c3)
          clear hks HB5
          go_wp2_with fail
          go_roundg g'
          case measure => omega
          case rel =>
            refine ⟨r, _, post, j, by omega, rfl, HRT.out _ ?_ ((HF.out.kp.trans HK5.out).fresh HKS.out (fun q h1 h2 => by have := HTB.out; omega)) HBS.out⟩
            exact TrM.keptT ((HK5.out.any (S := fun q => q = tb)).trans HKS.out) (fun q h => by subst h; exact .inr ⟨_, _, _, HBF.out wr (Kept.refl _ _), by decide⟩) HR.out
end Go.Proofs.YtdgbaeliabaneaaDoor
