/-
  LOWER: Down, where there is room.
-/
import Derived.Test.YthkohjijppbliaaDoorLMg
set_option linter.unusedVariables false
namespace Go.Proofs.YthkohjijppbliaaDoor
open Go Go.RowKit

def dnP (L : List ElemS) (a : Nat) : Nat := ((spotL L a).1 + 1).toNat
def dnLow (L : List ElemS) (a : Nat) : Nat := (spotL L a).2
def dnId (L : List ElemS) (a : Nat) : Int × Int := if dnP L a = 0 then (0, 0) else match L[dnP L a - 1]? with
  | some e => (e.t, e.si)
  | none => (0, 0)
def dnL1 (L : List ElemS) (a d : Nat) : List ElemS := L.take (dnLow L a) ++ kill (L.drop (dnLow L a)) d
def dnK (st : Int) : Nat := (st - 1).toNat
def dnOps (x : SiteP) (a d : Nat) (R : List Int) : List Cd.OpP := delOps x.st x.seen (dels (x.L.drop (dnLow x.L a)) d) ++ insOps x.st (x.ck + (d : Int)) (seenAt x.seen (dnK x.st) d) (dnId x.L a).1 (dnId x.L a).2 0 R
def dnDoc (x : SiteP) (a d : Nat) (R : List Int) : List ElemS := (dnL1 x.L a d).take (dnP x.L a) ++ comes x.st (x.ck + (d : Int)) R ++ (dnL1 x.L a d).drop (dnP x.L a)
def dnS (x : SiteP) (a d : Nat) (R : List Int) : SiteP := ⟨x.st, x.ck + (d : Int) + (R.length : Int), dnDoc x a d R, seenAt (seenAt x.seen (dnK x.st) d) (dnK x.st) R.length, x.wl, x.ll ++ dnOps x a d R⟩
/-- A site that a call has made. -/
structure SNew (w : World) (B : Nat) (y : SiteS) : Prop where
  doc : Oe w B y.dv y.L
  sA : ∃ s, y.sA = some ⟨s, 0, none⟩ ∧ B ≤ s ∧ Vm w s y.sc y.seen
  sn : y.seen.length = y.sn
  wait : To w B (.slice y.wA y.wn y.wc) y.wl
  wn : y.wl.length = y.wn
  log : To w B (.slice y.lA y.ln y.lc) y.ll
  ln : y.ll.length = y.ln
theorem SNew.keep {w w' : World} {B : Nat} {y : SiteS} (h : SNew w B y) (hk : Kept (fun _ => False) w w') : SNew w' B y := by
  obtain ⟨s, h1, h2, h3⟩ := h.sA
  exact ⟨h.doc.kept hk, ⟨s, h1, h2, h3.kept hk id⟩, h.sn, h.wait.keep hk, h.wn, h.log.keep hk, h.ln⟩
theorem heap_drew {w : World} {g : Nat} {o : Obj} (h : w.heap[g]? = some o) : w.drew.heap[g]? = some o := h
theorem To.away {S : Nat → Prop} {w w' : World} {B : Nat} {T : Value} {bl : List OpS} (h : To w B T bl) (hk : Kept S w w') (h1 : ∀ z, T.ownBlock = some z → ¬ S z) (h2 : ∀ q ∈ bl, ∀ a, q.A = some a → ¬ S a.block) : To w' B T bl :=
  ⟨h.tg.keepS hk h1 (fun q hq _ => h2 q hq), h.far⟩
theorem DnS.keepS {S : Nat → Prop} {w W W' : World} {x : SiteS} {a d : Int} {PX : ByteArray} (h : DnS w W x a d PX) (hk : Kept S W W') (hS : ∀ z, S z → w.heap.size + 3 ≤ z) : DnS w W' x a d PX :=
  ⟨(hk.block _ (heap_lt h.x) (fun e => by have := hS _ e; omega)).trans h.x, (hk.block _ (heap_lt h.p) (fun e => by have := hS _ e; omega)).trans h.p, (hk.block _ (heap_lt h.z) (fun e => by have := hS _ e; omega)).trans h.z, h.k.fresh hk (fun z hz e => by have := hS z e; omega)⟩
theorem txL_vld {L : List ElemS} (h : elsOk L) : Vld (txL L) := by
  intro r hr
  obtain ⟨e, he, rfl⟩ := List.mem_map.1 hr
  exact ru_valid ((h.2.1 e (List.mem_filter.1 he).1).2)
def DnOk (w w' : World) (x : SiteP) (a d : Nat) (R : List Int) (e : Ending) : Prop :=
  ∃ (T : Value) (bl : List OpS) (y : SiteS), e = .returned (.tuple #[T, y.V, .int .i64 0]) ∧ To w' w.heap.size T bl ∧ (∀ q ∈ bl, q.n = 4) ∧ bl.map (·.o) = dnOps x a d R ∧ y.P = dnS x a d R ∧ SNew w' w.heap.size y
theorem wrem_zero (B g s sc : Nat) (st ck : Int) (dv : Value) (seen : List Int) (wv lv T : Value) (bl : List OpS) (low : Int) (w : World) (h : Wb w B g s sc st ck dv seen wv lv T bl) :
    Calls Tryd.prog 52 #[.pointer (some ⟨g, 0, none⟩), .int .i64 low, .int .i64 0] w fun e w' => e = .returned (.tuple #[]) ∧ w' = w := by
  have b1 : decide ((0 : Int) > 0) = false := by decide
  have b2 : decide ((0 : Int) < 0) = false := by decide
  clear h
  go_enter Tryd.func52, Tryd.ntmps52
  go_wp2_with fail
  go_loopw [2, 6] (fun u v wr => u = .int .i64 0 ∧ w = wr) (fun _ _ _ => 0)
  case atStart => exact ⟨rfl, rfl⟩
  case round =>
    obtain ⟨rfl, rfl⟩ := hrel
    go_wp2_with fail
    exact bodyPost_end (results_none rfl _ _ _) rfl ⟨rfl, rfl⟩
/-- remove, whatever the row. -/
theorem wrem_all (B g s sc dc Bd : Nat) (A : Option Addr) (OD : Option Nat) (st ck : Int) (L : List ElemS) (seen : List Int) (wv lv T : Value) (bl : List OpS) (low n k0 : Nat) (y : Int) (w : World) (h : Wb w B g s sc st ck (.slice A L.length dc) seen wv lv T bl)
    (hd : Oe w Bd (.slice A L.length dc) L) (hod : (Value.slice A L.length dc).ownBlock = OD) (hds : ∀ z, OD = some z → z < s) (hlow : low ≤ L.length) (hn : n ≤ (txL (L.drop low)).length) (hid : ∀ e ∈ L, I64 e.t ∧ I64 e.si) (hst : 1 ≤ st ∧ st ≤ 4) (hk0 : (st - 1).toNat = k0) (hck : 0 ≤ ck ∧ ck + n ≤ 10000) (hv : Cd.vecOk seen) (hy : seen[k0]? = some y) (hyn : y + n ≤ 2000) (hbl : bl.length + n ≤ 50000) (hL : L.length ≤ 2000) :
    Calls Tryd.prog 52 #[.pointer (some ⟨g, 0, none⟩), .int .i64 low, .int .i64 n] w fun e w' => e = .returned (.tuple #[]) ∧
      (∃ (T' : Value) (bl' : List OpS), Wb w' B g s sc st (ck + n) (.slice A L.length dc) (seenAt seen k0 n) wv lv T' (bl ++ bl') ∧ bl'.map (·.o) = delOps st seen (dels (L.drop low) n) ∧ (∀ z, T'.ownBlock = some z → z < w.heap.size → T.ownBlock = some z) ∧ Oe w' Bd (.slice A L.length dc) (L.take low ++ kill (L.drop low) n)) ∧
      Kept (fun z => z = g ∨ z = s ∨ OD = some z ∨ T.ownBlock = some z) w w' := by
  rcases hd.em with ⟨_, hL0⟩ | ⟨d, c, hA, hBd, hem, hcm⟩
  · have hn0 : n = 0 := by
      rw [hL0] at hn
      simp [txL] at hn
      exact hn
    subst hn0
    refine (wrem_zero B g s sc st ck _ seen wv lv T bl low w h).mono fun e w' ⟨he, hw⟩ => ?_
    subst hw
    refine ⟨he, ⟨T, [], ?_, ?_, fun z h _ => h, ?_⟩, Kept.refl _ _⟩
    · rw [List.append_nil, seenAt_zero]
      have e : ck + ((0 : Nat) : Int) = ck := by omega
      rw [e]
      exact h
    · rw [dels_zero]; rfl
    · rw [kill_zero, List.take_append_drop]
      exact hd
  · injection hA with h1 h2 h3
    subst h1 h3
    have hod : some d = OD := hod
    subst hod
    refine (wrem_any B g s sc d dc Bd st ck L seen wv lv T bl low n k0 y w h hem (hds d rfl) hlow hn hid hst hk0 hck hv hy hyn hbl hL).mono fun e w' ⟨he, ⟨T', bl', q1, q2, q3, q4⟩, hk⟩ => ?_
    refine ⟨he, ⟨T', bl', q1, q2, q3, ?_⟩, hk.mono fun z _ e => ?_⟩
    · exact q4.oe hBd hcm (by rw [List.length_append, kill_len, List.length_take, List.length_drop]; omega)
    · rcases e with e | e | e | e
      · exact .inl e
      · exact .inr (.inl e)
      · exact .inr (.inr (.inl (by rw [e])))
      · exact .inr (.inr (.inr e))
set_option maxRecDepth 100000 in
set_option maxHeartbeats 16000000 in
theorem down_ok (x : SiteS) (a d : Nat) (R : List Int) (w : World) (hx : SiteOk w x) (hT : Tabs w) (hP : (runesBytes R).size ≤ 100000) (hR : Vld R) (hml : R.length ≤ 100000) (ha : a ≤ 100000) (hd : d ≤ 100000) (hok : SOk x.P) (hp : POk (runesBytes (txL x.L)) (runesBytes R) a d) (hroom : Room x.P d R.length) :
    Calls Tryd.prog 22 #[x.V, patV a d (runesBytes R)] w fun e w' => DnOk w w' x.P a d R e ∧ Kept (fun _ => False) w w' := by
  have HS := Lib.hid (dns_new w x a d (runesBytes R))
  have HX := Lib.hid hx
  have HT := Lib.hid hT
  have hrs : (rs (runesBytes R)) = R := rs_txt hR
  have cC := fun W (hk : Kept (fun _ => False) w W) => lcheck_any x W (hx.kept hk) (hT.kept hk id id)
  have cM := fun W (hk : Kept (fun _ => False) w W) => maypatch_any x.L x.dv a d (runesBytes R) W (hx.doc.kept hk) hok.els (hT.kept hk id id) hP ⟨by omega, by omega⟩ ⟨by omega, by omega⟩
  have cN := fun W => rcount_any (runesBytes R) W (by omega)
  rw [hrs] at cN
  have cH := fun W (hk : Kept (fun _ => False) w W) => hasroom_any x d R.length W (hx.kept hk) hok (by omega) (by omega)
  have HP := Lib.hid hp
  have HR := Lib.hid hroom
  have HOK := Lib.hid hok
  have HVR := Lib.hid hR
  simp only [if_pos hok] at cC
  clear hx hT hrs hp hroom hok hR
  obtain ⟨st, ck, dv, L, sA, sn, sc, seen, wA, wn, wc, wl, lA, ln, lc, ll⟩ := x
  simp only [SiteS.V, SiteS.O, SiteS.cs] at *
  obtain ⟨A, c, hdv, _⟩ := HX.out.doc.open'
  simp only at hdv
  subst hdv
  obtain ⟨N, hN⟩ : ∃ N, L.length = N := ⟨_, rfl⟩
  have HN := Lib.hid hN
  simp only [hN] at cC cM cH HS HX HOK HR HP ⊢
  clear hN
  obtain ⟨M, hM⟩ : ∃ M, R.length = M := ⟨_, rfl⟩
  have HM := Lib.hid hM
  simp only [hM] at cN cH HR hml
  clear hM
  obtain ⟨PX, hPX⟩ : ∃ PX, runesBytes R = PX := ⟨_, rfl⟩
  have HPX := Lib.hid hPX
  simp only [hPX] at cC cM cN cH HS HP hP ⊢
  clear hPX
  go_enter Tryd.func22, Tryd.ntmps22
  go_upto_region 1 with fail
  simp only [patO, zSite] at HS
  generalize ((w.alloc _).alloc _).alloc _ = W at *
  obtain ⟨g, hg⟩ : ∃ g, w.heap.size = g := ⟨_, rfl⟩
  have HGG := Lib.hid hg
  obtain ⟨p0, p1, p2, p3, p4, p5⟩ := site_cells (x := ⟨st, ck, .slice A N c, L, sA, sn, sc, seen, wA, wn, wc, wl, lA, ln, lc, ll⟩) HS.out.x
  obtain ⟨r0, r1, r2⟩ := pat_cells HS.out.p
  simp only [hg] at p0 p1 p2 p3 p4 p5 r0 r1 r2 ⊢
  go_upto_region 3 with (first
    | (go_at_call 46; refine (cC _ HS.out.k).mono ?_; clear cC; rintro ee w2 ⟨rfl, hk2⟩; have HS2 := Lib.hid (HS.out.keep hk2); clear hk2 p0 p1 p2 p3 p4 p5 r0 r1 r2; obtain ⟨p0, p1, p2, p3, p4, p5⟩ := site_cells (x := ⟨st, ck, .slice A N c, L, sA, sn, sc, seen, wA, wn, wc, wl, lA, ln, lc, ll⟩) HS2.out.x; obtain ⟨r0, r1, r2⟩ := pat_cells HS2.out.p; simp only [hg] at p0 p1 p2 p3 p4 p5 r0 r1 r2)
    | (go_at_call 47; refine (cM _ HS2.out.k).mono ?_; clear cM; rintro ee w3 ⟨⟨RB, rfl, hR⟩, hk3⟩; have hRf : RB = true := hR.2 HP.out; subst hRf; have HS3 := Lib.hid (HS2.out.keep hk3); clear hk3 hR p0 p1 p2 p3 p4 p5 r0 r1 r2))
  have KF : Hid (∀ V, Kept (fun _ => False) w3 V → (V.cell? ⟨g, 0, none⟩ = some (.int .i64 st) ∧ V.cell? ⟨g, 1, none⟩ = some (.int .i64 ck) ∧ V.cell? ⟨g, 2, none⟩ = some (.slice A N c) ∧ V.cell? ⟨g, 3, none⟩ = some (.slice sA sn sc) ∧ V.cell? ⟨g, 4, none⟩ = some (.slice wA wn wc) ∧ V.cell? ⟨g, 5, none⟩ = some (.slice lA ln lc)) ∧ V.cell? ⟨g + 1, 0, none⟩ = some (.int .i64 (a : Int)) ∧ V.cell? ⟨g + 1, 1, none⟩ = some (.int .i64 (d : Int)) ∧ V.cell? ⟨g + 1, 2, none⟩ = some (.string PX)) := by
    show ∀ V, _
    intro V hk
    have h := HS3.out.keep hk
    have h1 := site_cells (x := ⟨st, ck, .slice A N c, L, sA, sn, sc, seen, wA, wn, wc, wl, lA, ln, lc, ll⟩) h.x
    have h2 := pat_cells h.p
    simp only [hg] at h1 h2
    exact ⟨h1, h2⟩
  have HKD : Hid (Kept (fun _ => False) w3 w3.drew) := (Kept.refl _ w3).drew
  have KA := KF.out w3.drew HKD.out
  go_cut [28] from 21 to 28 (fun v wx => v = .bool false ∧ Kept (fun _ => False) w3 wx)
  case first =>
    go_region_held3 (fun (V : World) => (V.cell? ⟨g, 0, none⟩ = some (.int .i64 st) ∧ V.cell? ⟨g, 1, none⟩ = some (.int .i64 ck) ∧ V.cell? ⟨g, 2, none⟩ = some (.slice A N c) ∧ V.cell? ⟨g, 3, none⟩ = some (.slice sA sn sc) ∧ V.cell? ⟨g, 4, none⟩ = some (.slice wA wn wc) ∧ V.cell? ⟨g, 5, none⟩ = some (.slice lA ln lc)) ∧ V.cell? ⟨g + 1, 0, none⟩ = some (.int .i64 (a : Int)) ∧ V.cell? ⟨g + 1, 1, none⟩ = some (.int .i64 (d : Int)) ∧ V.cell? ⟨g + 1, 2, none⟩ = some (.string PX))
      (first | with_reducible exact KC | with_reducible exact KB | with_reducible exact KA | fail)
      (first
        | (go_at_call 49; refine (cN _).mono ?_; clear cN; rintro ee w4 ⟨rfl, hk4⟩; have HK4 := Lib.hid (HKD.out.trans hk4); have KB := KF.out w4 HK4.out; clear hk4)
        | (go_at_call 48; refine (cH _ (HS3.out.k.trans HK4.out)).mono ?_; clear cH; rintro ee w5 ⟨⟨RB, rfl, hRR⟩, hk5⟩; have HK5 := Lib.hid (HK4.out.trans hk5); have KC := KF.out w5 HK5.out; have hRf : RB = true := hRR.2 HR.out; subst hRf; clear hk5 hRR))
    all_goals
      go_wp2_with fail
      go_meet
      exact ⟨rfl, HK5.out⟩
  case rest =>
    obtain ⟨rfl, hk5⟩ := hcut
    obtain ⟨w5, hw5⟩ : ∃ w5, w5 = wc := ⟨_, rfl⟩
    subst hw5
    have HS5 := Lib.hid (HS3.out.keep hk5)
    clear hk5 KA
    have hsn : sn = 4 := by
      have h1 := HX.out.seen.1
      have h2 := HOK.out.seen.1
      exact h1.symm.trans h2
    subst hsn
    have hwl4 : ∀ b ∈ wl, b.o.seen.length = 4 := fun b hb => (HOK.out.wl.2 b.o (List.mem_map.2 ⟨b, hb, rfl⟩)).2.2.2.1.1
    have hll4 : ∀ b ∈ ll, b.o.seen.length = 4 := fun b hb => (HOK.out.ll.2 b.o (List.mem_map.2 ⟨b, hb, rfl⟩)).2.2.2.1.1
    have hwn8 : wn ≤ 8000 := by
      have h1 := HOK.out.wl.1
      have h2 := HX.out.wait.1
      simp only [SiteS.P, List.length_map] at h1
      simp only at h2
      omega
    have hln8 : ln ≤ 8000 := by
      have h1 := HOK.out.ll.1
      have h2 := HX.out.log.1
      simp only [SiteS.P, List.length_map] at h1
      simp only at h2
      omega
    have hLb : L.length ≤ 2000 := HOK.out.els.1
    have HS49 : Hid (seen.length = 4) := HOK.out.seen.1
    have cS := ownsite_any ⟨st, ck, .slice A N c, L, sA, 4, sc, seen, wA, wn, wc, wl, lA, ln, lc, ll⟩ w5 (HX.out.kept HS5.out.k) (by simp only; omega) (HOK.out.seen.1) hwl4 hll4 (by simp only; omega) (by simp only; omega)
    simp only [SiteS.V, SiteS.cs] at cS
    obtain ⟨p0, p1, p2, p3, p4, p5⟩ := site_cells (x := ⟨st, ck, .slice A N c, L, sA, 4, sc, seen, wA, wn, wc, wl, lA, ln, lc, ll⟩) HS5.out.x
    simp only [hg] at p0 p1 p2 p3 p4 p5
    go_upto_region 6 with (go_at_call 50; refine cS.mono ?_; clear cS p0 p1 p2 p3 p4 p5; rintro ee w6 ⟨⟨⟨st', ck', dv', L', sA', sn', sc1, seen', wA1, wn1, wc1, wl1, lA1, ln1, lc1, ll1⟩, s, rfl, hso, hyP⟩, hk6⟩; simp only [SiteS.P, SiteP.mk.injEq] at hyP; obtain ⟨e1, e2, e3, e4, e5, e6⟩ := hyP; have e1 := e1.symm; have e2 := e2.symm; have e3 := e3.symm; have e4 := e4.symm; subst e1 e2 e3 e4; have e7 := hso.sA; have e9 := hso.sn; simp only at e9; rw [HS49.out] at e9; subst e9; simp only at e7; subst e7; obtain ⟨A1, c1, e8⟩ := hso.doc.form; simp only [HN.out] at e8; subst e8; have HSO := Lib.hid hso; have HWL := Lib.hid e5; have HLL := Lib.hid e6; have HS6 := Lib.hid (HS5.out.keep hk6); have HSW : Hid (w5.heap.size ≤ w6.heap.size) := hk6.size; clear hso e5 e6 hk6)
    have hw1l : ∀ b ∈ wl1, b.o.seen.length = 4 := fun b hb => by
      have h1 : b.o ∈ wl1.map (·.o) := List.mem_map.2 ⟨b, hb, rfl⟩
      rw [HWL.out] at h1
      obtain ⟨q, hq, e⟩ := List.mem_map.1 h1
      rw [← e]; exact hwl4 q hq
    have hl1l : ∀ b ∈ ll1, b.o.seen.length = 4 := fun b hb => by
      have h1 : b.o ∈ ll1.map (·.o) := List.mem_map.2 ⟨b, hb, rfl⟩
      rw [HLL.out] at h1
      obtain ⟨q, hq, e⟩ := List.mem_map.1 h1
      rw [← e]; exact hll4 q hq
    have HW1L := Lib.hid hw1l
    have HL1L := Lib.hid hl1l
    obtain ⟨wg, hwg⟩ : ∃ wg, w6.heap.size = wg := ⟨_, rfl⟩
    have hk7 : Kept (fun _ => False) w6 (w6.alloc (.cells #[.int .i64 st, .int .i64 ck, .slice A1 N c1, .slice (some ⟨s, 0, none⟩) 4 sc1, .slice wA1 wn1 wc1, .slice lA1 ln1 lc1, .slice none 0 0] 97)) := (Kept.refl _ w6).alloc _
    have HWB7 : Hid (Wb (w6.alloc (.cells #[.int .i64 st, .int .i64 ck, .slice A1 N c1, .slice (some ⟨s, 0, none⟩) 4 sc1, .slice wA1 wn1 wc1, .slice lA1 ln1 lc1, .slice none 0 0] 97)) (wg + 1) wg s sc1 st ck (.slice A1 N c1) seen (.slice wA1 wn1 wc1) (.slice lA1 ln1 lc1) (.slice none 0 0) []) :=
      ⟨by rw [← hwg]; exact heap_alloc_new w6 _, HSO.out.vm.kept hk7 id, to_nil _ _, (fun q hq => by cases hq), (fun q hq => by cases hq), by rw [← hwg]; exact HSO.out.vm.lt, Nat.lt_succ_self _, by rw [← hwg]; simp⟩
    have HDO7 : Hid (Oe (w6.alloc (.cells #[.int .i64 st, .int .i64 ck, .slice A1 N c1, .slice (some ⟨s, 0, none⟩) 4 sc1, .slice wA1 wn1 wc1, .slice lA1 ln1 lc1, .slice none 0 0] 97)) w5.heap.size (.slice A1 N c1) L) := HSO.out.doc.kept hk7
    have HWT7 : Hid (To (w6.alloc (.cells #[.int .i64 st, .int .i64 ck, .slice A1 N c1, .slice (some ⟨s, 0, none⟩) 4 sc1, .slice wA1 wn1 wc1, .slice lA1 ln1 lc1, .slice none 0 0] 97)) (s + 1) (.slice wA1 wn1 wc1) wl1) := HSO.out.wait.keep hk7
    have HLT7 : Hid (To (w6.alloc (.cells #[.int .i64 st, .int .i64 ck, .slice A1 N c1, .slice (some ⟨s, 0, none⟩) 4 sc1, .slice wA1 wn1 wc1, .slice lA1 ln1 lc1, .slice none 0 0] 97)) (s + 1) (.slice lA1 ln1 lc1) ll1) := HSO.out.log.keep hk7
    have HWR := Lib.hid (HSO.out.wait.range hw1l (Nat.le_of_eq hwg))
    have HLR := Lib.hid (HSO.out.log.range hl1l (Nat.le_of_eq hwg))
    have HS7 := Lib.hid (HS6.out.keep hk7)
    obtain ⟨OD, hOD⟩ : ∃ OD, (Value.slice A1 N c1).ownBlock = OD := ⟨_, rfl⟩
    have HOD := Lib.hid hOD
    have HDS : Hid (∀ z, OD = some z → z < s ∧ w5.heap.size ≤ z) := by
      show ∀ z, _
      intro z hz
      rw [← hOD] at hz
      exact ⟨HSO.out.ds z hz, (HSO.out.doc.lt z hz).1⟩
    have HN5 : Hid (g + 3 ≤ w5.heap.size ∧ w5.heap.size ≤ s ∧ s < wg) := by
      have h1 := heap_lt HS5.out.z
      have h2 := HSO.out.sB
      have h3 := HSO.out.vm.lt
      have h4 := HGG.out
      show _ ∧ _ ∧ _
      omega
    have HWG : Hid (w6.heap.size = wg) := hwg
    have HSEP := Lib.hid HSO.out.sep
    have HSN : Hid (wl1.length = wn1 ∧ ll1.length = ln1) := ⟨HSO.out.wn, HSO.out.ln⟩
    have htx : rs (runesBytes (txL L)) = txL L := rs_txt (txL_vld HOK.out.els)
    have hal : a ≤ (txL L).length ∧ d ≤ (txL L).length - a := by
      have h1 := HP.out.an
      have h2 := HP.out.dn
      rw [htx] at h1 h2
      omega
    obtain ⟨p, low, hsp, s1, s2, s3, s4, s5, s6⟩ := spotL_spec L a hal.1
    have cSp := fun W (hk : SiteOk W ⟨st, ck, .slice A N c, L, sA, 4, sc, seen, wA, wn, wc, wl, lA, ln, lc, ll⟩) => spotof_any L (.slice A N c) a W hk.doc (by omega) (by omega)
    rw [hsp] at cSp
    obtain ⟨AF, hAF⟩ : ∃ AF : Int, (p : Int) - 1 = AF := ⟨_, rfl⟩
    simp only [hAF] at cSp
    have HSP := Lib.hid hsp
    have HAF := Lib.hid hAF
    have HS16 := Lib.hid (And.intro s1 (And.intro s2 (And.intro s5 s6)))
    have HAL := Lib.hid hal
    clear hk7 hw1l hl1l hwl4 hll4 hwg hOD hsp hAF s1 s2 s3 s4 s5 s6 hal htx
    generalize w6.alloc (.cells #[.int .i64 st, .int .i64 ck, .slice A1 N c1, .slice (some ⟨s, 0, none⟩) 4 sc1, .slice wA1 wn1 wc1, .slice lA1 ln1 lc1, .slice none 0 0] 97) = w7 at *
    have hX7 := HX.out.kept HS7.out.k
    have cSp7 := cSp w7 hX7
    obtain ⟨p0, p1, p2, p3, p4, p5⟩ := site_cells (x := ⟨st, ck, .slice A N c, L, sA, 4, sc, seen, wA, wn, wc, wl, lA, ln, lc, ll⟩) HS7.out.x
    obtain ⟨r0, r1, r2⟩ := pat_cells HS7.out.p
    simp only [hg] at p0 p1 p2 p3 p4 p5 r0 r1 r2
    clear cSp hX7
    go_upto_region 7 with (go_at_call 51; refine cSp7.mono ?_; clear cSp7 p0 p1 p2 p3 p4 p5 r0 r1 r2; rintro ee w8 ⟨rfl, hk8⟩; have HWB8 := Lib.hid (HWB7.out.keep0 hk8); have HDO8 := Lib.hid (HDO7.out.kept hk8); have HWT8 := Lib.hid (HWT7.out.keep hk8); have HLT8 := Lib.hid (HLT7.out.keep hk8); have HS8 := Lib.hid (HS7.out.keep hk8); have HK78 := Lib.hid hk8; clear hk8)
    simp only [HWG.out]
    obtain ⟨y, hy⟩ : ∃ y, seen[dnK st]? = some y := by
      have h1 := HOK.out.st
      have h2 := HS49.out
      exact ⟨_, List.getElem?_eq_getElem (by unfold dnK; simp only [SiteS.P] at h1; omega)⟩
    have hgd : seen.getD (dnK st) 0 = y := by rw [List.getD_eq_getElem?_getD, hy]; rfl
    have hst : 1 ≤ st ∧ st ≤ 4 := HOK.out.st
    have hck : 0 ≤ ck ∧ ck ≤ 10000 := HOK.out.ck
    have hvk : Cd.vecOk seen := HOK.out.seen
    have hr1 : ck + ((d + M : Nat) : Int) ≤ 10000 := HR.out.ck
    have hr2 : y + ((d + M : Nat) : Int) ≤ 2000 := by
      have h := HR.out.seen
      have e : seen.getD (st - 1).toNat 0 = y := hgd
      simp only [SiteS.P] at h
      rw [e] at h
      exact h
    have hr3 : N + M ≤ 2000 := by
      have h := HR.out.doc
      simp only [SiteS.P, HN.out] at h
      exact h
    have hy0 := (hvk.2 y (List.mem_of_getElem? hy)).1
    have HY := Lib.hid hy
    have hids : ∀ e ∈ L, I64 e.t ∧ I64 e.si := fun e he => by
      obtain ⟨⟨⟨i1, i2⟩, i3, i4⟩, _⟩ := HOK.out.els.2.1 e he
      exact ⟨⟨by omega, by omega⟩, ⟨by omega, by omega⟩⟩
    have HIDS := Lib.hid hids
    have hln2 : d ≤ (txL (L.drop low)).length := by
      rw [HS16.out.2.2.1, List.length_drop]
      exact HAL.out.2
    have hwb8 := HWB8.out
    have hdo8 := HDO8.out
    rw [← HN.out] at hwb8 hdo8
    have cRm := wrem_all (wg + 1) wg s sc1 c1 w5.heap.size A1 OD st ck L seen _ _ _ [] low d (dnK st) y w8 hwb8 hdo8 (by rw [HN.out]; exact HOD.out) (fun z hz => (HDS.out z hz).1) HS16.out.2.1 hln2 hids hst rfl ⟨hck.1, by omega⟩ hvk hy (by omega) (by simp; omega) hLb
    rw [HN.out] at cRm
    have HDL : Hid (delOps st seen (dels (L.drop low) d) = delOps st seen (dels (L.drop (dnLow L a)) d) ∧ L.take low ++ kill (L.drop low) d = dnL1 L a d) := by
      have e : dnLow L a = low := by unfold dnLow; rw [HSP.out]
      show _ ∧ _
      rw [e]
      exact ⟨rfl, by unfold dnL1; rw [e]⟩
    obtain ⟨r0, r1, r2⟩ := pat_cells HS8.out.p
    simp only [hg] at r0 r1 r2
    clear hwb8 hdo8 hln2 hids
    go_upto_region 8 with (go_at_call 52; refine cRm.mono ?_; clear cRm r0 r1 r2; rintro ee w9 ⟨rfl, ⟨T9, bl1, hwb9, hbo9, hTT9, hdo9⟩, hk9⟩; rw [HDL.out.1] at hbo9; rw [HDL.out.2] at hdo9; have HWB9 := Lib.hid hwb9; have HBO9 := Lib.hid hbo9; have HDO9 := Lib.hid hdo9; have HK89 : Hid (Kept (fun z => z = wg ∨ z = s ∨ OD = some z) w8 w9) := hk9.mono (fun z _ e => by rcases e with e | e | e | e; exact .inl e; exact .inr (.inl e); exact .inr (.inr e); cases e); clear hwb9 hbo9 hTT9 hdo9 hk9)
    have HSA : Hid (∀ z, (z = wg ∨ z = s ∨ OD = some z) → w5.heap.size ≤ z ∧ (z = wg ∨ z ≤ s)) := by
      show ∀ z, _
      intro z e
      have h1 := HN5.out
      rcases e with e | e | e
      · omega
      · omega
      · have h2 := HDS.out z e
        omega
    have HWT9 := Lib.hid (HWT8.out.away HK89.out (fun z hz e => by have h1 := HWR.out.1 z hz; have h2 := (HSA.out z e).2; omega) (fun q hq b hb e => by have h1 := HWR.out.2 q hq b hb; have h2 := (HSA.out _ e).2; omega))
    have HLT9 := Lib.hid (HLT8.out.away HK89.out (fun z hz e => by have h1 := HLR.out.1 z hz; have h2 := (HSA.out z e).2; omega) (fun q hq b hb e => by have h1 := HLR.out.2 q hq b hb; have h2 := (HSA.out _ e).2; omega))
    have HS9 := Lib.hid (HS8.out.keepS HK89.out (fun z e => by have h1 := (HSA.out z e).1; have h2 := HN5.out.1; rw [HGG.out]; omega))
    have hpv : dnP L a = p := by
      unfold dnP
      rw [HSP.out]
      simp only
      omega
    have hL1 : (dnL1 L a d).length = N := by
      have e : dnLow L a = low := by unfold dnLow; rw [HSP.out]
      unfold dnL1
      rw [e, List.length_append, kill_len, List.length_take, List.length_drop, HN.out]
      have := HS16.out.2.1
      have := HN.out
      omega
    have hid : p = 0 ∧ (dnId L a).1 = 0 ∧ (dnId L a).2 = 0 ∨ ∃ e, (dnL1 L a d)[p - 1]? = some e ∧ e.t = (dnId L a).1 ∧ e.si = (dnId L a).2 ∧ 0 < p := by
      rcases HS16.out.2.2.2 with h0 | ⟨e, he, _, h0⟩
      · left
        unfold dnId
        rw [hpv, if_pos h0]
        exact ⟨h0, rfl, rfl⟩
      · right
        have e1 : dnLow L a = low := by unfold dnLow; rw [HSP.out]
        have hlow := HS16.out.1
        have hlow2 := HS16.out.2.1
        refine ⟨e, ?_, ?_⟩
        · unfold dnL1
          rw [e1, List.getElem?_append_left (by rw [List.length_take]; omega), List.getElem?_take, if_pos (by omega)]
          exact he
        · unfold dnId
          rw [hpv, if_neg (by omega), he]
          exact ⟨rfl, rfl, h0⟩
    have hti : I64 (dnId L a).1 ∧ I64 (dnId L a).2 := by
      rcases HS16.out.2.2.2 with h0 | ⟨e, he, _, h0⟩
      · unfold dnId
        rw [hpv, if_pos h0]
        exact ⟨⟨by simp only; omega, by simp only; omega⟩, ⟨by simp only; omega, by simp only; omega⟩⟩
      · unfold dnId
        rw [hpv, if_neg (by omega), he]
        exact HIDS.out e (List.mem_of_getElem? he)
    have hseq := seenAt_ok (j := d) hvk hy (by omega)
    have hb1 : bl1.length = d := by
      have h := congrArg List.length HBO9.out
      rw [List.length_map, delOps_len, dels_len] at h
      · exact h
      · have e : dnLow L a = low := by unfold dnLow; rw [HSP.out]
        rw [e, HS16.out.2.2.1, List.length_drop]
        exact HAL.out.2
    have hwb9 := HWB9.out
    have hdo9 := HDO9.out
    rw [← hL1] at hwb9 hdo9
    have cIn := wins_any (wg + 1) wg s sc1 c1 w5.heap.size A1 OD st (ck + (d : Int)) (dnL1 L a d) (seenAt seen (dnK st) d) _ _ T9 ([] ++ bl1) p (dnK st) AF (dnId L a).1 (dnId L a).2 (y + (d : Int)) R w9 hwb9 hdo9 (by have h1 := HN5.out; have h2 := HWB9.out.BB; omega) (by rw [hL1]; exact HOD.out) (fun z hz => (HDS.out z hz).1) (by rw [hL1]; have h1 := HS16.out.1; have h2 := HS16.out.2.1; have h3 := HN.out; omega) (by have := HAF.out; omega) hid hti hst rfl (by rw [HM.out]; omega) hseq.2.2.2 hseq.2.2.1 (by rw [HM.out]; omega) (by rw [HM.out]; simp only [List.nil_append]; omega) (by rw [hL1, HM.out]; omega) HVR.out
    rw [HM.out, HPX.out] at cIn
    obtain ⟨r0, r1, r2⟩ := pat_cells HS9.out.p
    simp only [hg] at r0 r1 r2
    have HPV := Lib.hid hpv
    have HB1L := Lib.hid hb1
    clear hwb9 hdo9 hid hti hseq hpv hL1 hb1
    go_upto_region 9 with (go_at_call 53; refine cIn.mono ?_; clear cIn r0 r1 r2; rintro ee w10 ⟨rfl, ⟨T10, dv10, bl2, hwb10, hbo10, hTT10, hdo10⟩, hk10⟩; have HWB10 := Lib.hid hwb10; have HBO10 := Lib.hid hbo10; have HDO10 := Lib.hid hdo10; have HK9X : Hid (Kept (fun z => z = wg ∨ z = s ∨ OD = some z ∨ T9.ownBlock = some z) w9 w10) := hk10; clear hwb10 hbo10 hTT10 hdo10 hk10)
    have HSB : Hid (∀ z, (z = wg ∨ z = s ∨ OD = some z ∨ T9.ownBlock = some z) → w5.heap.size ≤ z ∧ (wg ≤ z ∨ z ≤ s)) := by
      show ∀ z, _
      intro z e
      have h1 := HN5.out
      rcases e with e | e | e | e
      · omega
      · omega
      · have h2 := HDS.out z e
        omega
      · have h2 := (HWB9.out.ops.lt e).1
        omega
    have HWT10 := Lib.hid (HWT9.out.away HK9X.out (fun z hz e => by have h1 := HWR.out.1 z hz; have h2 := (HSB.out z e).2; omega) (fun q hq b hb e => by have h1 := HWR.out.2 q hq b hb; have h2 := (HSB.out _ e).2; omega))
    have HLT10 := Lib.hid (HLT9.out.away HK9X.out (fun z hz e => by have h1 := HLR.out.1 z hz; have h2 := (HSB.out z e).2; omega) (fun q hq b hb e => by have h1 := HLR.out.2 q hq b hb; have h2 := (HSB.out _ e).2; omega))
    have HS10 := Lib.hid (HS9.out.keepS HK9X.out (fun z e => by have h1 := (HSB.out z e).1; have h2 := HN5.out.1; rw [HGG.out]; omega))
    obtain ⟨LD, hLD⟩ : ∃ LD, (List.take p (dnL1 L a d) ++ comes st (ck + (d : Int)) R ++ List.drop p (dnL1 L a d)).length = LD := ⟨_, rfl⟩
    obtain ⟨dA, dcc, hdv10⟩ := HDO10.out.form
    rw [hLD] at hdv10
    subst hdv10
    clear hLD
    obtain ⟨BL, hBL⟩ : ∃ BL, [] ++ bl1 ++ bl2 = BL := ⟨_, rfl⟩
    have HBL := Lib.hid hBL
    simp only [hBL] at HWB10
    obtain ⟨n, hn⟩ : ∃ n, BL.length = n := ⟨_, rfl⟩
    have HNN := Lib.hid hn
    obtain ⟨TA, tc, hT10⟩ := own_formO HWB10.out.ops
    rw [hn] at hT10
    subst hT10
    have hbo : BL.map (·.o) = dnOps ⟨st, ck, L, seen, wl.map (·.o), ll.map (·.o)⟩ a d R := by
      rw [← hBL, List.nil_append, List.map_append, HBO9.out, HBO10.out]
      rfl
    have HBOX := Lib.hid hbo
    have hn2 : n = d + M := by
      rw [← hn, ← hBL]
      have h1 := HB1L.out
      have h2 := congrArg List.length HBO10.out
      rw [List.length_map, insOps_len, HM.out] at h2
      simp only [List.nil_append, List.length_append]
      omega
    have h4n : ∀ b ∈ BL, b.o.seen.length = 4 := fun b hb => by
      have h1 := HWB10.out.n4 b hb
      have h2 := (HWB10.out.ops.tg.ok b hb).seen.1
      omega
    have HKD8 : Hid (Kept (fun _ => False) w10 w10.drew) := (Kept.refl _ w10).drew
    have htoD := HWB10.out.ops.keep HKD8.out
    obtain ⟨hMD, hCD, _⟩ := htoD.opsM hn
    have cO := ownops_any TA n tc BL w10.drew hMD hCD (by omega) h4n
    have HKF : Hid (∀ V, Kept (fun _ => False) w10 V → V.heap[wg]? = some (.cells #[.int .i64 st, .int .i64 (ck + (d : Int) + (M : Int)), .slice dA LD dcc, .slice (some ⟨s, 0, none⟩) 4 sc1, .slice wA1 wn1 wc1, .slice lA1 ln1 lc1, .slice TA n tc] 97 (0, 0))) := fun V hk => (HWB10.out.keep0 hk).h
    have hl5 : ∀ V, Kept (fun _ => False) w10 V → V.cell? ⟨wg, 5, none⟩ = some (.slice lA1 ln1 lc1) := fun V hk => cell_of_row _ _ _ _ _ _ (HKF.out V hk)
    have HL5 := Lib.hid hl5
    have k6 : w10.cell? ⟨wg, 6, none⟩ = some (.slice TA n tc) := cell_of_row _ _ _ _ _ _ HWB10.out.h
    have k5 : w10.cell? ⟨wg, 5, none⟩ = some (.slice lA1 ln1 lc1) := hl5 w10 (Kept.refl _ _)
    have HLG : Hid (ll1.length + n ≤ 100000) := by
      have h1 := HSN.out.2
      have h2 := congrArg List.length HLL.out
      simp only [List.length_map] at h2
      have h3 := HR.out.log
      simp only [SiteS.P, List.length_map] at h3
      show _ ≤ _
      omega
    have HBA : Hid (∀ V, Kept (fun _ => False) w10 V → s + 1 ≤ V.heap.size) := by
      show ∀ V, _
      intro V hk
      have h1 := hk.size
      have h2 := HWB10.out.BB
      have h3 := HN5.out
      omega
    have HN2 := Lib.hid hn2
    obtain ⟨LZ, hLZ⟩ : ∃ LZ, ln1 + n = LZ := ⟨_, rfl⟩
    have HLZ := Lib.hid hLZ
    clear hLZ
    clear hBL hn hbo h4n htoD hMD hCD hl5 hn2 hgd hy
    go_upto_region 9 with fail
    go_region_law (first
      | (go_simp; go_at_call 54; refine cO.mono ?_; clear cO; rintro ee w11 ⟨hret, hk11⟩; obtain ⟨A3, c3, bl3, he3, hto3, hlen3, ho3⟩ := opsret_to hret; subst he3; have HTO3 := Lib.hid hto3; have HLE3 := Lib.hid hlen3; have HO3 := Lib.hid ho3; have HK11 := Lib.hid (HKD8.out.trans hk11); have k7 := HL5.out w11 HK11.out; have HLT11 := Lib.hid (HLT10.out.keep HK11.out); clear hret hto3 hlen3 ho3 hk11)
      | (refine step_app_ops rfl (.tmp 51) (.tmp 54) rfl (s + 1) (.slice lA1 ln1 lc1) ll1 rfl HLT11.out.tg.own A3 n c3 bl3 rfl (HTO3.out.opsM HLE3.out).1 (HTO3.out.opsM HLE3.out).2.1 HLG.out (HBA.out w11 HK11.out) ?_; intro T12 w12 hown hgrow hat; obtain ⟨A12, c12, hT12⟩ := own_form' hown; rw [List.length_append, HSN.out.2, HLE3.out, HLZ.out] at hT12; subst hT12; have HOW := Lib.hid hown; have HGR := Lib.hid hgrow; have HAT := Lib.hid hat; have HX12 : Hid (w12.heap[wg]? = some (.cells #[.int .i64 st, .int .i64 (ck + (d : Int) + (M : Int)), .slice dA LD dcc, .slice (some ⟨s, 0, none⟩) 4 sc1, .slice wA1 wn1 wc1, .slice lA1 ln1 lc1, .slice TA n tc] 97 (0, 0))) := (hgrow.block wg (heap_lt (HKF.out w11 HK11.out)) (fun e => by have h1 := (HLR.out.1 wg e.symm).2; omega)).trans (HKF.out w11 HK11.out); have k8 : w12.cell? ⟨wg, 5, none⟩ = some (.slice lA1 ln1 lc1) := cell_of_row _ _ _ _ _ _ HX12.out; have f8 : w12.frozen? ⟨wg, 5, none⟩ = false := frozen_of HX12.out; clear hown hgrow hat))
    all_goals
      have HL13 : Hid ((w12.setCell ⟨wg, 5, none⟩ (.slice A12 LZ c12)).heap[wg]? = some (.cells #[.int .i64 st, .int .i64 (ck + (d : Int) + (M : Int)), .slice dA LD dcc, .slice (some ⟨s, 0, none⟩) 4 sc1, .slice wA1 wn1 wc1, .slice A12 LZ c12, .slice TA n tc] 97 (0, 0))) := heap_set HX12.out _
      have hg12 := HGR.out
      have hk12 : Kept (fun z => (Value.slice lA1 ln1 lc1).ownBlock = some z) w10 w12 := HK11.out.any.trans ⟨hg12.os, hg12.tape, hg12.output, hg12.size, fun k hk hs => hg12.block k hk (fun e => hs e.symm)⟩
      have hk13 : Kept (fun z => z = wg) w12 (w12.setCell ⟨wg, 5, none⟩ (.slice A12 LZ c12)) := (Kept.refl (fun z => z = wg) w12).setCell (p := ⟨wg, 5, none⟩) rfl _
      have HK12 := Lib.hid hk12
      have HK13 := Lib.hid hk13
      have HKX : Hid (Kept (fun z => z = wg ∨ (Value.slice lA1 ln1 lc1).ownBlock = some z) w10 (w12.setCell ⟨wg, 5, none⟩ (.slice A12 LZ c12))) := (hk12.mono (fun _ _ e => .inr e)).trans (hk13.mono (fun _ _ e => .inl e))
      have HSX : Hid (∀ z, (z = wg ∨ (Value.slice lA1 ln1 lc1).ownBlock = some z) → s < z ∧ z ≤ wg) := by
        show ∀ z, _
        intro z e
        have h1 := HN5.out
        rcases e with e | e
        · omega
        · have h2 := HLR.out.1 z e
          omega
      have HS13 := Lib.hid (HS10.out.keepS HKX.out (fun z e => by have h1 := (HSX.out z e).1; have h2 := HN5.out; rw [HGG.out]; omega))
      clear hg12 hk12 hk13 k5 k6 k7 k8 f8
      generalize w12.setCell ⟨wg, 5, none⟩ (.slice A12 LZ c12) = w13 at *
      have z0 : w13.cell? ⟨wg, 0, none⟩ = some (.int .i64 st) := cell_of_row _ _ _ _ _ _ HL13.out
      have z1 : w13.cell? ⟨wg, 1, none⟩ = some (.int .i64 (ck + (d : Int) + (M : Int))) := cell_of_row _ _ _ _ _ _ HL13.out
      have z2 : w13.cell? ⟨wg, 2, none⟩ = some (.slice dA LD dcc) := cell_of_row _ _ _ _ _ _ HL13.out
      have z3 : w13.cell? ⟨wg, 3, none⟩ = some (.slice (some ⟨s, 0, none⟩) 4 sc1) := cell_of_row _ _ _ _ _ _ HL13.out
      have z4 : w13.cell? ⟨wg, 4, none⟩ = some (.slice wA1 wn1 wc1) := cell_of_row _ _ _ _ _ _ HL13.out
      have z5 : w13.cell? ⟨wg, 5, none⟩ = some (.slice A12 LZ c12) := cell_of_row _ _ _ _ _ _ HL13.out
      have z6 : w13.cell? ⟨wg, 6, none⟩ = some (.slice TA n tc) := cell_of_row _ _ _ _ _ _ HL13.out
      obtain ⟨⟨x0, x1, x2, x3, x4, x5⟩, y0, y1, y2, y3, y4, y5⟩ := six_facts HS13.out.z
      simp only [hg] at x0 x1 x2 x3 x4 x5 y0 y1 y2 y3 y4 y5
      go_upto_region 10 with fail
      go_region
      clear z0 z1 z2 z3 z4 z5 z6 x0 x1 x2 x3 x4 x5 y0 y1 y2 y3 y4 y5
      have HZ13 : Hid (w13.heap[g + 1 + 1]? = some (.cells zSite 46 (0, 0))) := by
        have h := HS13.out.z
        rw [hg] at h
        exact h
      have hkz : Kept (fun q => q = g + 1 + 1) w13 ((((((w13.setCell ⟨g + 1 + 1, 0, none⟩ (.int .i64 st)).setCell ⟨g + 1 + 1, 1, none⟩ (.int .i64 (ck + (d : Int) + (M : Int)))).setCell ⟨g + 1 + 1, 2, none⟩ (.slice dA LD dcc)).setCell ⟨g + 1 + 1, 3, none⟩ (.slice (some ⟨s, 0, none⟩) 4 sc1)).setCell ⟨g + 1 + 1, 4, none⟩ (.slice wA1 wn1 wc1)).setCell ⟨g + 1 + 1, 5, none⟩ (.slice A12 LZ c12)).drew := (Kept.six (Kept.refl (fun q => q = g + 1 + 1) w13) rfl _ _ _ _ _ _).drew
      have HKZ := Lib.hid hkz
      have HGZ : Hid (((((((w13.setCell ⟨g + 1 + 1, 0, none⟩ (.int .i64 st)).setCell ⟨g + 1 + 1, 1, none⟩ (.int .i64 (ck + (d : Int) + (M : Int)))).setCell ⟨g + 1 + 1, 2, none⟩ (.slice dA LD dcc)).setCell ⟨g + 1 + 1, 3, none⟩ (.slice (some ⟨s, 0, none⟩) 4 sc1)).setCell ⟨g + 1 + 1, 4, none⟩ (.slice wA1 wn1 wc1)).setCell ⟨g + 1 + 1, 5, none⟩ (.slice A12 LZ c12)).drew.heap[g + 1 + 1]? = some (.cells #[.int .i64 st, .int .i64 (ck + (d : Int) + (M : Int)), .slice dA LD dcc, .slice (some ⟨s, 0, none⟩) 4 sc1, .slice wA1 wn1 wc1, .slice A12 LZ c12] 46 (0, 0))) := heap_drew (six_set HZ13.out _ _ _ _ _ _)
      clear hkz
      generalize (((((((w13.setCell ⟨g + 1 + 1, 0, none⟩ (.int .i64 st)).setCell ⟨g + 1 + 1, 1, none⟩ (.int .i64 (ck + (d : Int) + (M : Int)))).setCell ⟨g + 1 + 1, 2, none⟩ (.slice dA LD dcc)).setCell ⟨g + 1 + 1, 3, none⟩ (.slice (some ⟨s, 0, none⟩) 4 sc1)).setCell ⟨g + 1 + 1, 4, none⟩ (.slice wA1 wn1 wc1)).setCell ⟨g + 1 + 1, 5, none⟩ (.slice A12 LZ c12)).drew) = wf at *
      have l1 := HN5.out
      have l2 := HGG.out
      have l3 := HWB10.out.BB
      have hKX := HKX.out
      have hKZ := HKZ.out
      have hw := HWB10.out
      have hDn : DnOk w wf ⟨st, ck, L, seen, wl.map (·.o), ll.map (·.o)⟩ a d R (.returned (.tuple #[.slice TA n tc, .agg #[.int .i64 st, .int .i64 (ck + (d : Int) + (M : Int)), .slice dA LD dcc, .slice (some ⟨s, 0, none⟩) 4 sc1, .slice wA1 wn1 wc1, .slice A12 LZ c12], .int .i64 0])) := by
        refine ⟨.slice TA n tc, BL, ⟨st, ck + (d : Int) + (M : Int), .slice dA LD dcc, List.take p (dnL1 L a d) ++ comes st (ck + (d : Int)) R ++ List.drop p (dnL1 L a d), some ⟨s, 0, none⟩, 4, sc1, seenAt (seenAt seen (dnK st) d) (dnK st) M, wA1, wn1, wc1, wl1, A12, LZ, c12, ll1 ++ bl3⟩, rfl, ?_, hw.n4, HBOX.out, ?_, ⟨?_, ⟨s, rfl, ?_, ?_⟩, ?_, ?_, HSN.out.1, ?_, ?_⟩⟩
        · refine ((hw.ops.keepS hKX (fun q hq e => ?_)).keepS hKZ (fun q hq e => ?_)).mono (by omega)
          · have h1 := (HSX.out q e).2
            omega
          · have e : q = g + 1 + 1 := e
            omega
        · show SiteP.mk st (ck + (d : Int) + (M : Int)) _ _ (wl1.map (·.o)) ((ll1 ++ bl3).map (·.o)) = dnS _ a d R
          rw [HWL.out, List.map_append, HLL.out, HO3.out, HBOX.out, ← HM.out]
          unfold dnS
          refine congrArg (fun z => SiteP.mk st (ck + (d : Int) + (R.length : Int)) z _ _ _) ?_
          show _ = dnDoc ⟨st, ck, L, seen, _, _⟩ a d R
          unfold dnDoc
          simp only [HPV.out]
        · refine ((HDO10.out.keptS hKX (fun z hz e => ?_)).keptS hKZ (fun z hz e => ?_)).mono (by omega)
          · obtain ⟨_, cur, h2⟩ := HDO10.out.typed hz
            rcases e with e | e
            · rw [e] at h2
              exact typ_ne h2 hw.h (by decide) rfl
            · obtain ⟨cur3, h3⟩ := HLT10.out.typed e
              exact typ_ne h2 h3 (by decide) rfl
          · obtain ⟨_, cur, h2⟩ := HDO10.out.typed hz
            have e : z = g + 1 + 1 := e
            have h3 := HS10.out.z
            rw [hg] at h3
            rw [e] at h2
            exact typ_ne h2 h3 (by decide) rfl
        · omega
        · exact (hw.vm.kept hKX (fun e => by have h1 := (HSX.out s e).1; omega)).kept hKZ (fun e => by have e : s = g + 1 + 1 := e; omega)
        · rw [seenAt_len, seenAt_len]
          exact HS49.out
        · obtain ⟨m, m1, m2, m3, m4⟩ := HSEP.out
          refine ((HWT10.out.away hKX (fun z hz e => ?_) (fun q hq b hb e => ?_)).away hKZ (fun z hz e => ?_) (fun q hq b hb e => ?_)).mono (by omega)
          · have h1 := m2 z hz
            have h2 := HWR.out.1 z hz
            rcases e with e | e
            · omega
            · have h3 := (World.ownsRow.lt m4.tg.own z e).1
              omega
          · have h1 := m3 q hq b hb
            have h2 := HWR.out.2 q hq b hb
            rcases e with e | e
            · omega
            · have h3 := (World.ownsRow.lt m4.tg.own _ e).1
              omega
          · have e : z = g + 1 + 1 := e
            have h2 := HWR.out.1 z hz
            omega
          · have e : b.block = g + 1 + 1 := e
            have h2 := HWR.out.2 q hq b hb
            omega
        · have htg : Tg w12 (s + 1) (.slice A12 LZ c12) (ll1 ++ bl3) := Tg.apps HLT11.out.tg (Kept.refl _ w11) (fun q hq => HTO3.out.tg.ok q hq) (fun q hq _ b hb e => by
            have h1 := (HLR.out.1 _ e).2
            have h2 := HTO3.out.far q hq b hb
            have h3 : w10.drew.heap.size = w10.heap.size := rfl
            omega) HOW.out HGR.out HAT.out
          have hfar : ∀ q ∈ ll1 ++ bl3, ∀ b, q.A = some b → s + 1 ≤ b.block ∧ b.block ≠ wg := fun q hq b hb => by
            rcases List.mem_append.1 hq with hq | hq
            · have h1 := HLR.out.2 q hq b hb
              omega
            · have h2 := HTO3.out.far q hq b hb
              have h3 : w10.drew.heap.size = w10.heap.size := rfl
              omega
          have hto : To w12 (s + 1) (.slice A12 LZ c12) (ll1 ++ bl3) := ⟨htg, fun q hq b hb => (hfar q hq b hb).1⟩
          have hown12 : ∀ z, (Value.slice A12 LZ c12).ownBlock = some z → z ≠ wg ∧ z ≠ g + 1 + 1 := fun z hz => by
            have h0 := (World.ownsRow.lt htg.own z hz).1
            rcases HAT.out with e | e
            · rw [e] at hz
              have h1 := HLR.out.1 z hz
              omega
            · rw [e] at hz
              injection hz with hz
              have h1 := HK11.out.size
              omega
          refine ((hto.away HK13.out (fun z hz e => (hown12 z hz).1 e) (fun q hq b hb e => (hfar q hq b hb).2 e)).away hKZ (fun z hz e => (hown12 z hz).2 e) (fun q hq b hb e => ?_)).mono (by omega)
          have e : b.block = g + 1 + 1 := e
          have := (hfar q hq b hb).1
          omega
        · show (ll1 ++ bl3).length = LZ
          rw [List.length_append, HSN.out.2, HLE3.out]
          exact HLZ.out
      have HDN := Lib.hid hDn
      have HKF2 : Hid (Kept (fun _ => False) w wf) := HS13.out.k.fresh hKZ (fun z hz e => by have e : z = g + 1 + 1 := e; omega)
      clear hDn hKX hKZ hw
      go_wp2_with fail
      exact bodyPost_ret (v := .tuple #[.slice TA n tc, .agg #[.int .i64 st, .int .i64 (ck + (d : Int) + (M : Int)), .slice dA LD dcc, .slice (some ⟨s, 0, none⟩) 4 sc1, .slice wA1 wn1 wc1, .slice A12 LZ c12], .int .i64 0]) (res_tst rfl _ _ (g + 1 + 1) _ _ _ _ _ _ (.slice TA n tc) (.int .i64 0) (0, 0) rfl rfl rfl HGZ.out) rfl ⟨HDN.out, HKF2.out⟩
end Go.Proofs.YthkohjijppbliaaDoor
