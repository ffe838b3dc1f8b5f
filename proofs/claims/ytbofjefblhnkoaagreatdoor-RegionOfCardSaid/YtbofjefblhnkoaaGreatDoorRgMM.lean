/-
  REGIONS: what an operator works on, of the program and of the reference, of whatever command.
-/
import Derived.Test.YtbofjefblhnkoaaGreatDoorRgUF
import Derived.Test.YtbofjefblhnkoaaGreatDoorRgX
import Derived.Test.YtbofjefblhnkoaaGreatDoorRgRS
import Derived.Test.YtbofjefblhnkoaaGreatDoorRgO
import Derived.Deep.RegionHeld3
import Derived.Deep.CutRange
set_option linter.unusedVariables false
set_option maxRecDepth 100000
namespace Go.Proofs.YtbofjefblhnkoaaGreatDoor
open Go Go.RowKit Pk

theorem times_le {m : Nat} (h : m ≤ 999) : 1 ≤ Rw.times m ∧ Rw.times m ≤ 999 := by unfold Rw.times; omega
theorem ofM_wide {t : List Int} {k m : Nat} {c2 c3 c4 c5 k1 k2 : Int} {M : List (List Int)} (h : c4 ≠ 0) : Rw.ofM t k m c2 c3 c4 c5 k1 k2 M = (Rw.pce t k c4 c3 (Rw.times m)).map fun r => (r, k1, k2) := by
  unfold Rw.ofM
  rw [if_pos h]
theorem ofM_rows {t : List Int} {k m : Nat} {c2 c3 c4 c5 k1 k2 : Int} {M : List (List Int)} (h : c4 = 0) (h2 : c3 = c2) : Rw.ofM t k m c2 c3 c4 c5 k1 k2 M = (Rw.rowsR t k (Rw.times m)).map fun r => (r, k1, k2) := by
  unfold Rw.ofM
  rw [if_neg (by omega), if_pos h2]
theorem ofM_go {t : List Int} {k m : Nat} {c2 c3 c4 c5 k1 k2 : Int} {M : List (List Int)} (h : c4 = 0) (h2 : c3 ≠ c2) : Rw.ofM t k m c2 c3 c4 c5 k1 k2 M = (Rw.goM t k c3 c5 m k1 k2 M).map fun r => (Rw.btI (Rw.bt t k r.1.toNat r.2.1), r.2.2.1, r.2.2.2) := by
  unfold Rw.ofM
  rw [if_neg (by omega), if_neg h2]
/-- How a piece is told with what is sought. -/
theorem ofV_piece {o : Option (Int × Int × Bool)} {k1 k2 lo hi : Int} {ln : Bool} {er : Int} (h : ansR o = .tuple #[rngV lo hi ln, .int .i64 er]) :
    (if er = 0 then Value.tuple #[rngV lo hi ln, sekV k1 k2, .int .i64 0] else .tuple #[rngV 0 0 false, sekV 0 0, .int .i64 er]) = ofV (o.map fun r => (r, k1, k2)) := by
  cases o with
  | none =>
    have he : er = 6 := by
      unfold ansR at h
      injection h with h
      have := congrArg (fun a => a[1]?) h
      simp at this
      exact this.symm
    subst he
    rw [if_neg (by decide)]
    rfl
  | some r =>
    obtain ⟨a, b, l⟩ := r
    have hh : rngV a b l = rngV lo hi ln ∧ er = 0 := by
      unfold ansR at h
      injection h with h
      have h0 := congrArg (fun a => a[0]?) h
      have h1 := congrArg (fun a => a[1]?) h
      simp at h0 h1
      exact ⟨by rw [h0.1, h0.2.1, h0.2.2], h1.symm⟩
    obtain ⟨h0, rfl⟩ := hh
    rw [if_pos rfl, ← h0]
    rfl
theorem pof_good (s : ByteArray) (k m : Nat) (c0 c2 c3 c4 c5 k1 k2 : Int) (A : Option Addr) (n c : Nat) (M : List (List Int)) (w : World) (hT : Tabs w) (hX : Mx w) (hA : Rws w A n 2 M) (hn : n ≤ 100000) (hm : mayB s = true) (hk : k ≤ (rs s).length) (hop : Rw.Oper c2) (hc : m ≤ 999) (hx : k1 = 0 ∨ Rw.Seek k1) (ho : Rw.mOk M) (hw : Way c2 c3 c4) :
    Calls Tryz.prog 8 #[.string s, .int .i64 k, cmdV c0 m c2 c3 c4 c5, sekV k1 k2, .slice A n c] w fun e w' => e = .returned (ofV (Rw.ofM (rs s) k m c2 c3 c4 c5 k1 k2 M)) ∧ Kept (fun _ => False) w w' := by
  have ht := times_le hc
  rcases hw with ⟨hw, hw2, hO⟩ | ⟨rfl, hw⟩
  · obtain ⟨lo, hi, ln, er, he⟩ := ansR_form (Rw.pce (rs s) k c4 c3 (Rw.times m))
    rw [ofM_wide hw, ← ofV_piece he]
    refine pof_wide s k m c0 c2 c3 c4 c5 k1 k2 A n c lo hi ln er w (fun W hk' => pmay_t s k c0 m c2 c3 c4 c5 k1 k2 A n c M W (hT.kept hk' id id) (hA.kept hk' (fun _ _ => id)) hn hm hk hop (by omega) hx ho (by rcases hw2 with h | h; exact .inl h; exact .inr (.inl h))) hc hw (fun W hk' => ?_)
    rw [← he]
    exact ppiece_yes s k (Rw.times m) c4 c3 W (hT.kept hk' id id) hm hk hw2 hO ht.1 ht.2
  · by_cases hne : c3 = c2
    · obtain ⟨lo, hi, ln, er, he⟩ := ansR_form (Rw.rowsR (rs s) k (Rw.times m))
      rw [ofM_rows rfl hne, ← ofV_piece he]
      refine pof_rows s k m c0 c2 c3 0 c5 k1 k2 A n c lo hi ln er w (fun W hk' => pmay_t s k c0 m c2 c3 0 c5 k1 k2 A n c M W (hT.kept hk' id id) (hA.kept hk' (fun _ _ => id)) hn hm hk hop (by omega) hx ho (.inr (.inr ⟨rfl, .inl hne⟩))) hc rfl hne (fun W hk' => ?_)
      rw [← he]
      exact prows_any s k (Rw.times m) W (hT.kept hk' id id) (hX.kept hk') hm hk ht.1 ht.2
    · have hkin := hw.resolve_left hne
      rw [ofM_go rfl hne]
      cases hg : Rw.goM (rs s) k c3 c5 m k1 k2 M with
      | none => exact pof_none s k m c0 c2 c3 c5 k1 k2 A n c M w hT hA hn hm hk hop hc hx ho hne hkin hg
      | some r =>
        obtain ⟨a, kd, x, y⟩ := r
        obtain ⟨a, rfl, ha, hkd⟩ := Rw.goM_bound hk hx ho hg
        exact pof_go s k m a c0 c2 c3 c5 k1 k2 kd x y A n c M w hT hA hn hm hk hop hc hx ho hne hkin hg ha hkd
/-- A good command. -/
def GoodS (s : ByteArray) (x c1 c2 c3 c4 k1 : Int) (M : List (List Int)) : Prop := mayB s = true ∧ GoodF (rs s).length x c1 c2 c3 c4 k1 M
theorem pof_bad (s : ByteArray) (x c0 c1 c2 c3 c4 c5 k1 k2 : Int) (A : Option Addr) (n c : Nat) (M : List (List Int)) (w : World) (hs : s.size ≤ 140737488351232) (hT : Tabs w) (hA : Rws w A n 2 M) (hn : n ≤ 100000) (h : ¬ GoodS s x c1 c2 c3 c4 k1 M) :
    Calls Tryz.prog 8 #[.string s, .int .i64 x, cmdV c0 c1 c2 c3 c4 c5, sekV k1 k2, .slice A n c] w fun e w' => e = .returned (.tuple #[rngV 0 0 false, sekV 0 0, .int .i64 1]) ∧ Kept (fun _ => False) w w' := by
  by_cases hy : MayG s x c1 c2 c3 c4 k1 M
  · obtain ⟨⟨hm, hx0, hx1⟩, hop, hc, hx, ho, hw⟩ := hy
    obtain ⟨k, rfl⟩ := Int.eq_ofNat_of_zero_le hx0
    obtain ⟨m, rfl⟩ := Int.eq_ofNat_of_zero_le hc.1
    have hno : ¬ Way c2 c3 c4 := fun h6 => h ⟨hm, hop, ⟨hx0, hx1⟩, hc, hx, ho, h6⟩
    have hw4 : (c4 = 105 ∨ c4 = 97) ∧ ¬ Rw.Obj c3 := by
      rcases hw with h4 | h4 | ⟨h4, h5⟩
      · exact ⟨.inl h4, fun hO => hno (.inl ⟨by omega, .inl h4, hO⟩)⟩
      · exact ⟨.inr h4, fun hO => hno (.inl ⟨by omega, .inr h4, hO⟩)⟩
      · exact absurd (.inr ⟨h4, h5⟩) hno
    have := pof_wide s k m c0 c2 c3 c4 c5 k1 k2 A n c 0 0 false 1 w (fun W hk' => pmay_t s k c0 m c2 c3 c4 c5 k1 k2 A n c M W (hT.kept hk' id id) (hA.kept hk' (fun _ _ => id)) hn hm (by omega) hop hc hx ho hw) (by omega) (by omega) (fun W hk' => ppiece_no s k c4 c3 (Rw.times m : Nat) W hs (hT.kept hk' id id) (fun hg => hw4.2 hg.2.2.1))
    rw [if_neg (by decide)] at this
    exact this
  · exact pof_no s x c1 c0 c2 c3 c4 c5 k1 k2 A n c w (fun W hk' => pmay_f s x c0 c1 c2 c3 c4 c5 k1 k2 A n c M W hs (hT.kept hk' id id) (hA.kept hk' (fun _ _ => id)) hn hy)
theorem ofV_form (o : Option ((Int × Int × Bool) × Int × Int)) : ∃ (lo hi : Int) (ln : Bool) (a b er : Int), ofV o = .tuple #[rngV lo hi ln, sekV a b, .int .i64 er] := by
  cases o with
  | none => exact ⟨_, _, _, _, _, _, rfl⟩
  | some r => exact ⟨_, _, _, _, _, _, rfl⟩
/-- What is told of whatever command. -/
def ToldS (s : ByteArray) (x c1 c2 c3 c4 c5 k1 k2 : Int) (M : List (List Int)) (lo hi : Int) (ln : Bool) (a b er : Int) : Prop := (GoodS s x c1 c2 c3 c4 k1 M → ofV (Rw.ofM (rs s) x.toNat c1.toNat c2 c3 c4 c5 k1 k2 M) = .tuple #[rngV lo hi ln, sekV a b, .int .i64 er]) ∧ (¬ GoodS s x c1 c2 c3 c4 k1 M → lo = 0 ∧ hi = 0 ∧ ln = false ∧ a = 0 ∧ b = 0 ∧ er = 1)
theorem pof_all (s : ByteArray) (x c0 c1 c2 c3 c4 c5 k1 k2 : Int) (A : Option Addr) (n c : Nat) (M : List (List Int)) (w : World) (hs : s.size ≤ 140737488351232) (hT : Tabs w) (hX : Mx w) (hA : Rws w A n 2 M) (hn : n ≤ 100000) :
    Calls Tryz.prog 8 #[.string s, .int .i64 x, cmdV c0 c1 c2 c3 c4 c5, sekV k1 k2, .slice A n c] w fun e w' => (∃ (lo hi : Int) (ln : Bool) (a b er : Int), e = .returned (.tuple #[rngV lo hi ln, sekV a b, .int .i64 er]) ∧ ToldS s x c1 c2 c3 c4 c5 k1 k2 M lo hi ln a b er) ∧ Kept (fun _ => False) w w' := by
  by_cases hg : GoodS s x c1 c2 c3 c4 k1 M
  · obtain ⟨hm, hop, hx1, hc, hx, ho, hw⟩ := id hg
    obtain ⟨k, rfl⟩ := Int.eq_ofNat_of_zero_le hx1.1
    obtain ⟨m, rfl⟩ := Int.eq_ofNat_of_zero_le hc.1
    refine (pof_good s k m c0 c2 c3 c4 c5 k1 k2 A n c M w hT hX hA hn hm (by omega) hop (by omega) hx ho hw).mono fun e w' ⟨he, hk⟩ => ?_
    obtain ⟨lo, hi, ln, a, b, er, h⟩ := ofV_form (Rw.ofM (rs s) k m c2 c3 c4 c5 k1 k2 M)
    exact ⟨⟨lo, hi, ln, a, b, er, by rw [he, h], fun _ => h, fun h' => absurd hg h'⟩, hk⟩
  · refine (pof_bad s x c0 c1 c2 c3 c4 c5 k1 k2 A n c M w hs hT hA hn hg).mono fun e w' ⟨he, hk⟩ => ?_
    exact ⟨⟨0, 0, false, 0, 0, 1, he, fun h => absurd h hg, fun _ => ⟨rfl, rfl, rfl, rfl, rfl, rfl⟩⟩, hk⟩
theorem rof_yes (TA : Option Addr) (tc : Nat) (t : List Int) (k m : Nat) (c0 c2 c3 c4 c5 k1 k2 : Int) (A : Option Addr) (n c : Nat) (M : List (List Int)) (w : World) (hR : Rn w TA t.length t) (hr : Runey t) (hl : t.length ≤ 6000) (hk : k ≤ t.length) (hc : m ≤ 999) (hx : k1 = 0 ∨ Rw.Seek k1) (hA : Rws w A n 2 M) (hn : n ≤ 100000) (ho : Rw.mOk M) (hw : Way c2 c3 c4) :
    Calls Tryz.prog 11 #[.slice TA t.length tc, .int .i64 k, cmdV c0 m c2 c3 c4 c5, sekV k1 k2, .slice A n c] w fun e w' => e = .returned (ofV (Rw.ofM t k m c2 c3 c4 c5 k1 k2 M)) ∧ Kept (fun _ => False) w w' := by
  have ht := times_le hc
  rcases hw with ⟨hw, hw2, hO⟩ | ⟨rfl, hw⟩
  · obtain ⟨lo, hi, ln, er, he⟩ := ansR_form (Rw.pce t k c4 c3 (Rw.times m))
    rw [ofM_wide hw, ← ofV_piece he]
    refine rof_wide TA tc t k m c0 c2 c3 c4 c5 k1 k2 A n c lo hi ln er w hc hw (fun W hk' => ?_)
    rw [← he]
    exact rpiece_yes TA t.length tc k (Rw.times m) c4 c3 t W (hR.kept hk' (fun _ _ => id)) hr hl hk hw2 hO ht.1 ht.2
  · by_cases hne : c3 = c2
    · subst hne
      rw [ofM_rows rfl rfl]
      unfold Rw.rowsR
      have cX := fun W (hk' : Kept (fun _ => False) w W) => r95_any (c := tc) (m := Rw.times m) (k := k) (hR.kept hk' (fun _ _ => id)) hr hk (by omega) ht.2
      cases hg : Rw.to t k 95 (Rw.times m) with
      | none =>
        simp only [hg] at cX
        exact rof_rows0 TA tc t k m c0 c3 c3 0 c5 k1 k2 A n c w hc cX
      | some a =>
        simp only [hg] at cX
        have ha : a ≤ t.length := Rw.to_le t k 95 _ hk a hg
        exact rof_rows1 TA tc t k m c0 c3 c3 0 c5 k1 k2 A n c a w hR hl hk ha hc cX
    · have hkin := hw.resolve_left hne
      rw [ofM_go rfl hne]
      have cX := fun W (hk' : Kept (fun _ => False) w W) => rgo_yes TA tc t k m c0 c2 c3 0 c5 k1 k2 A n c M W (hR.kept hk' (fun _ _ => id)) hr hl hk hc hx (hA.kept hk' (fun _ _ => id)) hn ho hkin
      cases hg : Rw.goM t k c3 c5 m k1 k2 M with
      | none =>
        simp only [hg] at cX
        exact rof_go0 TA tc t k m c0 c2 c3 0 c5 k1 k2 A n c w hne hc cX
      | some r =>
        obtain ⟨a, kd, x, y⟩ := r
        obtain ⟨a, rfl, ha, hkd⟩ := Rw.goM_bound hk hx ho hg
        simp only [hg] at cX
        exact rof_go1 TA tc t k m c0 c2 c3 0 c5 k1 k2 A n c a kd x y w hR hl hk ha hkd hne hc cX
end Go.Proofs.YtbofjefblhnkoaaGreatDoor
set_option linter.unusedVariables false
set_option maxRecDepth 100000
namespace Go.Proofs.YtbofjefblhnkoaaGreatDoor
open Go Go.RowKit

/-- A row of six numbers. -/
theorem Rws.six {w : World} {A : Option Addr} {n : Nat} {rows : List (List Int)} (h : Rws w A n 6 rows) {i : Nat} (hi : i < n) : ∃ ad c0 c1 c2 c3 c4 c5, A = some ad ∧ rows[i]? = some [c0, c1, c2, c3, c4, c5] ∧ w.cell? (ad.add (i * 6)) = some (.int .i64 c0) ∧
    w.cell? ⟨(ad.add (i * 6)).block, (ad.add (i * 6)).off + 1, none⟩ = some (.int .i64 c1) ∧ w.cell? ⟨(ad.add (i * 6)).block, (ad.add (i * 6)).off + 2, none⟩ = some (.int .i64 c2) ∧ w.cell? ⟨(ad.add (i * 6)).block, (ad.add (i * 6)).off + 3, none⟩ = some (.int .i64 c3) ∧
    w.cell? ⟨(ad.add (i * 6)).block, (ad.add (i * 6)).off + 4, none⟩ = some (.int .i64 c4) ∧ w.cell? ⟨(ad.add (i * 6)).block, (ad.add (i * 6)).off + 5, none⟩ = some (.int .i64 c5) := by
  obtain ⟨ad, r, e, hr, hl, _, hc⟩ := h.row hi
  match r, hl with
  | [c0, c1, c2, c3, c4, c5], _ =>
    have h0 := hc 0 c0 rfl
    have h1 := hc 1 c1 rfl
    have h2 := hc 2 c2 rfl
    have h3 := hc 3 c3 rfl
    have h4 := hc 4 c4 rfl
    have h5 := hc 5 c5 rfl
    rw [addr_far _ _ (by omega)] at h1 h2 h3 h4 h5
    exact ⟨ad, c0, c1, c2, c3, c4, c5, e, hr, by simpa [Addr.add] using h0, h1, h2, h3, h4, h5⟩
theorem kset {w W : World} (h : Kept (fun _ => False) w W) {g : Nat} (hg : w.heap.size ≤ g) (i : Nat) (v : Value) : Kept (fun _ => False) w (W.setCell ⟨g, i, none⟩ v) :=
  h.fresh ((Kept.refl (fun q => q = g) W).setCell (p := ⟨g, i, none⟩) rfl v) (fun q hq e => by omega)
theorem alloc_at (W : World) (o : Obj) {g : Nat} (h : g = W.heap.size) : (W.alloc o).heap[g]? = some o := by
  subst h
  exact heap_alloc_new W o
end Go.Proofs.YtbofjefblhnkoaaGreatDoor
set_option linter.unusedVariables false
set_option linter.unusedSimpArgs false
set_option maxRecDepth 100000
namespace Go.Proofs.YtbofjefblhnkoaaGreatDoor
open Go Go.RowKit

set_option maxHeartbeats 16000000 in
theorem regionOf_any (p : AskM) (w : World) (hp : AskMOk w p) (hT : Tabs w) (hX : Mx w) :
    Calls Tryz.prog 3 #[.agg p.cells] w fun e w' => e = .returned (.bool true) ∧ Kept (fun _ => False) w w' := by
  have hK0 : Hid (Kept (fun _ => False) w (w.alloc (.cells p.cells 34))) := (Kept.refl _ w).alloc _
  have hH0 : Hid (HeldM (w.alloc (.cells p.cells 34)) w.heap.size p) := ⟨heap_alloc_new w _, hp.kept hK0.out⟩
  have HT0 := Lib.hid (hT.kept hK0.out id id)
  have HX0 := Lib.hid (hX.kept hK0.out)
  have cH := heavy16_any p (w.alloc (.cells p.cells 34)) hH0.out.ask
  clear hp hT hX
  obtain ⟨⟨A, n0, c0, ss, xa, xb, xr, xc, xk, xn, xq⟩, B, bn, bc, cmds, k1, k2, M, mn, mc, marks⟩ := p
  unfold AskM.cells at *
  simp only at *
  go_enter Tryz.func3, Tryz.ntmps3
  go_wp2_with (go_at_call 5; refine cH.mono ?_; rintro e w1 ⟨⟨hv, rfl, hsm⟩, hk1⟩; have HS := Lib.hid hsm; have HK1 := Lib.hid (hK0.out.trans hk1); have HH := Lib.hid (hH0.out.kept hk1); have HT1 := Lib.hid (HT0.out.kept hk1 id id); have HX1 := Lib.hid (HX0.out.kept hk1); clear hsm hk1 hH0 hK0 cH HT0 HX0)
  · exact bodyPost_ret (results_tmp rfl _ _ _) rfl ⟨rfl, HK1.out⟩
  have hv0 : hv = false := by assumption
  subst hv0
  have hss : (∀ s ∈ ss, s.size ≤ 6000) ∧ bn + mn ≤ 200 := HS.out rfl
  have HSS := Lib.hid hss.1
  obtain ⟨_, hbm⟩ := hss
  clear HS
  generalize hpb : w.heap.size = pb at HH ⊢
  clear hpb
  go_loopw [3] (fun v wr => ∃ i : Nat, i ≤ n0 ∧ i ≤ 3 ∧ v = .int .i64 i ∧ Kept (fun _ => False) w1 wr) (fun v _ => n0 - (intOf v).toNat)
  case atStart => exact ⟨0, Nat.zero_le _, Nat.zero_le _, rfl, Kept.refl _ _⟩
  case round =>
    obtain ⟨i, hi, hi4, rfl, hki⟩ := hrel
    obtain ⟨wi, hwi⟩ : ∃ wi, wi = wr := ⟨_, rfl⟩
    subst hwi
    have HKW := Lib.hid hki
    clear hki
    have p0 : wi.cell? ⟨pb, 0, none⟩ = some (.slice A n0 c0) := (HH.out.kept HKW.out).pb.c 0
    by_cases hgo : i < n0 ∧ i < 3
    · obtain ⟨g1, g2⟩ := hgo
      obtain ⟨ad, s, rfl, hs, hsc, _⟩ := (HH.out.kept HKW.out).ask.w.ss.cell g1
      have hsz : s.size ≤ 6000 := HSS.out s (List.mem_of_getElem? hs)
      have hl := rs_len s
      clear hs
      obtain ⟨cap, w2, hcap, hcv, hk2, hlt2, hR⟩ := conv_rs s wi (by omega)
      generalize ht : rs s = t at *
      have HT2 := Lib.hid ht
      have HKW2 := Lib.hid (HKW.out.trans hk2)
      have HR := Lib.hid hR
      have HH2 := Lib.hid (HH.out.kept HKW2.out)
      have q0 : w2.cell? ⟨pb, 0, none⟩ = some (.slice (some ad) n0 c0) := HH2.out.pb.c 0
      have q1 : w2.cell? ⟨pb, 1, none⟩ = some (.int .i64 xa) := HH2.out.pb.c 1
      have q2 : w2.cell? ⟨pb, 2, none⟩ = some (.int .i64 xb) := HH2.out.pb.c 2
      have q3 : w2.cell? ⟨pb, 3, none⟩ = some (.int .i64 xr) := HH2.out.pb.c 3
      have q4 : w2.cell? ⟨pb, 4, none⟩ = some (.int .i64 xc) := HH2.out.pb.c 4
      have q5 : w2.cell? ⟨pb, 5, none⟩ = some (.int .i64 xk) := HH2.out.pb.c 5
      have q6 : w2.cell? ⟨pb, 6, none⟩ = some (.int .i64 xn) := HH2.out.pb.c 6
      have q7 : w2.cell? ⟨pb, 7, none⟩ = some (.int .i64 xq) := HH2.out.pb.c 7
      clear hk2 hR ht hcap hlt2
      generalize hrb : wi.heap.size = rb at HR hcv
      clear hrb
      have cO := offsets_any ⟨some ad, n0, c0, ss, xa, xb, xr, xc, xk, xn, xq⟩ (some ⟨rb, 0, none⟩) t.length cap w2 HH2.out.ask.w.xa (by omega)
      unfold AskV.cells at cO
      simp only at cO
      have b1 : decide (i < n0) = true := by simp; omega
      have b2 : decide (i < 3) = true := by simp; omega
      have b3 : decide ((i : Int) < 3) = true := by simp; omega
      go_wp2_with (go_at_call 6; refine cO.mono ?_; rintro e w3 ⟨hk3, Xa, m, c', xs, rfl, hxs, hm15, hx64⟩; have HKW3 := Lib.hid (HKW2.out.trans hk3); have HR3 := Lib.hid (HR.out.kept hk3 (fun _ _ => id)); have HX3 := Lib.hid hxs; clear hk3 hxs hx64 q0 q1 q2 q3 q4 q5 q6 q7 cO hcv HH2 HR HKW2 p0 hsc)
      have HTl : Hid (t.length ≤ 6000) := by show _ ≤ _; omega
      clear b1 b2 b3
      go_loopw [7] (fun v wr => ∃ j : Nat, j ≤ m ∧ j ≤ 8 ∧ v = .int .i64 j ∧ Kept (fun _ => False) w3 wr) (fun v _ => m - (intOf v).toNat)
      case atStart => exact ⟨0, Nat.zero_le _, Nat.zero_le _, rfl, Kept.refl _ _⟩
      case round =>
        obtain ⟨j, hj, hj8, rfl, hkj⟩ := hrel
        obtain ⟨wj, hwj⟩ : ∃ wj, wj = wr := ⟨_, rfl⟩
        subst hwj
        have HKJ := Lib.hid hkj
        clear hkj
        by_cases hgj : j < m ∧ j < 8
        · obtain ⟨j1, j2⟩ := hgj
          obtain ⟨xa', x, rfl, hx, _⟩ := HX3.out.cell j1
          have HXJ := Lib.hid hx
          clear hx
          have b1 : decide (j < m) = true := by simp; omega
          have b2 : decide (j < 8) = true := by simp; omega
          have b3 : decide ((j : Int) < 8) = true := by simp; omega
          go_wp2_with fail
          clear b1 b2 b3
          go_loopw [8] (fun v wr => ∃ k : Nat, k ≤ bn ∧ k ≤ 12 ∧ v = .int .i64 k ∧ Kept (fun _ => False) wj wr) (fun v _ => bn - (intOf v).toNat)
          case atStart => exact ⟨0, Nat.zero_le _, Nat.zero_le _, rfl, Kept.refl _ _⟩
          case round =>
            obtain ⟨k, hk, hk12, rfl, hkk⟩ := hrel
            obtain ⟨wk, hwk⟩ : ∃ wk, wk = wr := ⟨_, rfl⟩
            subst hwk
            have HKK := Lib.hid hkk
            have HKV := Lib.hid (HKJ.out.trans hkk)
            clear hkk
            have HHK := Lib.hid (HH.out.kept (HKW3.out.trans HKV.out))
            have r8 : wk.cell? ⟨pb, 8, none⟩ = some (.slice B bn bc) := HHK.out.pb.c 8
            by_cases hgk : k < bn ∧ k < 12
            · obtain ⟨l1, l2⟩ := hgk
              have b1 : decide (k < bn) = true := by simp; omega
              have b2 : decide (k < 12) = true := by simp; omega
              have b3 : decide ((k : Int) < 12) = true := by simp; omega
              obtain ⟨cad, e0, e1, e2, e3, e4, e5, rfl, _, s0, s1, s2, s3, s4, s5⟩ := HHK.out.ask.cmds.six l1
              have r9 : wk.cell? ⟨pb, 9, none⟩ = some (.int .i64 k1) := HHK.out.pb.c 9
              have r10 : wk.cell? ⟨pb, 10, none⟩ = some (.int .i64 k2) := HHK.out.pb.c 10
              have r11 : wk.cell? ⟨pb, 11, none⟩ = some (.slice M mn mc) := HHK.out.pb.c 11
              have f1 : wk.cell? (xa'.add j) = some (.int .i64 x) := by
                obtain ⟨ad1, e1, h1⟩ := (HX3.out.kept HKV.out (fun _ _ => id)).2 j x HXJ.out
                injection e1 with e1
                subst e1
                exact h1
              have t1 : (0 : Int) ≤ (j : Int) := by omega
              have t2 : (j : Int) < (m : Int) := by omega
              have t3 : (0 : Int) ≤ (k : Int) := by omega
              have t4 : (k : Int) < (bn : Int) := by omega
              have hs9 : s.size ≤ 140737488351232 := by omega
              have hmn : mn ≤ 100000 := by omega
              have HMK := Lib.hid HHK.out.ask.marks
              have HSA : Hid (∀ w' : World, Kept (fun _ => False) wk w' → w'.cell? (xa'.add j) = some (.int .i64 x) ∧ w'.cell? ⟨pb, 8, none⟩ = some (.slice (some cad) bn bc) ∧ w'.cell? ⟨pb, 9, none⟩ = some (.int .i64 k1) ∧ w'.cell? ⟨pb, 10, none⟩ = some (.int .i64 k2) ∧ w'.cell? ⟨pb, 11, none⟩ = some (.slice M mn mc) ∧ w'.cell? (cad.add (k * 6)) = some (.int .i64 e0) ∧ w'.cell? ⟨(cad.add (k * 6)).block, (cad.add (k * 6)).off + 1, none⟩ = some (.int .i64 e1) ∧ w'.cell? ⟨(cad.add (k * 6)).block, (cad.add (k * 6)).off + 2, none⟩ = some (.int .i64 e2) ∧ w'.cell? ⟨(cad.add (k * 6)).block, (cad.add (k * 6)).off + 3, none⟩ = some (.int .i64 e3) ∧ w'.cell? ⟨(cad.add (k * 6)).block, (cad.add (k * 6)).off + 4, none⟩ = some (.int .i64 e4) ∧ w'.cell? ⟨(cad.add (k * 6)).block, (cad.add (k * 6)).off + 5, none⟩ = some (.int .i64 e5)) := by
                show ∀ w' : World, Kept (fun _ => False) wk w' → _
                intro w' h
                exact ⟨cell_kept h f1 id, cell_kept h r8 id, cell_kept h r9 id, cell_kept h r10 id, cell_kept h r11 id, cell_kept h s0 id, cell_kept h s1 id, cell_kept h s2 id, cell_kept h s3 id, cell_kept h s4 id, cell_kept h s5 id⟩
              have cCopy := copymarks_any M mn mc marks wk HMK.out hmn
              have HTK := Lib.hid (HT1.out.kept (HKW3.out.trans HKV.out) id id)
              have HXK := Lib.hid (HX1.out.kept (HKW3.out.trans HKV.out))
              go_upto_region 16 with (go_at_call 7; refine cCopy.mono ?_; rintro e wm ⟨⟨Bb, cc, rfl, hB, hBn⟩, hkm⟩; have HKM := Lib.hid hkm; have HBM := Lib.hid hB; clear hB hBn hkm cCopy)
              clear b1 b2 b3 f1 r8 r9 r10 r11 s0 s1 s2 s3 s4 s5
              have cOf := fun W (hk' : Kept (fun _ => False) wm W) => pof_all s x e0 e1 e2 e3 e4 e5 k1 k2 Bb mn cc marks W hs9 (HTK.out.kept (HKM.out.trans hk') id id) (HXK.out.kept (HKM.out.trans hk')) (HBM.out.kept hk' (fun _ _ => id)) hmn
              unfold cmdV at cOf
              have HCOF := Lib.hid cOf
              have KA := HSA.out _ HKM.out
              clear cOf
              go_cut [10, 11, 12] from 68 to 85 (fun s10 s11 s12 wx => ∃ (g h : Nat) (lo hi : Int) (ln : Bool) (u v er : Int), s10 = .pointer (some ⟨g, 0, none⟩) ∧ s11 = .pointer (some ⟨h, 0, none⟩) ∧ s12 = .int .i64 er ∧ ToldS s x e1 e2 e3 e4 e5 k1 k2 marks lo hi ln u v er ∧ wm.heap.size ≤ g ∧ wm.heap.size ≤ h ∧ g ≠ h ∧ wx.heap[g]? = some (rngO lo hi ln) ∧ wx.heap[h]? = some (sekO u v) ∧ Kept (fun _ => False) wm wx)
              case first =>
                have hKA : Kept (fun _ => False) wm (wm.drew) := (Kept.refl _ wm).drew
                have hKB : Kept (fun _ => False) wm ((wm.alloc (rngO 0 0 false)).drew) := ((Kept.refl _ wm).alloc _).drew
                have hKC : Kept (fun _ => False) wm ((wm.alloc (sekO 0 0)).drew) := ((Kept.refl _ wm).alloc _).drew
                have hKD : Kept (fun _ => False) wm (((wm.alloc (rngO 0 0 false)).alloc (sekO 0 0)).drew) := (((Kept.refl _ wm).alloc _).alloc _).drew
                have hKE : Kept (fun _ => False) wm (((wm.alloc (sekO 0 0)).alloc (rngO 0 0 false)).drew) := (((Kept.refl _ wm).alloc _).alloc _).drew
                have HRB : Hid ((wm.alloc (rngO 0 0 false)).drew.heap[wm.heap.size]? = some (rngO 0 0 false)) := heap_alloc_new wm _
                have HSC : Hid ((wm.alloc (sekO 0 0)).drew.heap[wm.heap.size]? = some (sekO 0 0)) := heap_alloc_new wm _
                have HRD : Hid (((wm.alloc (rngO 0 0 false)).alloc (sekO 0 0)).drew.heap[wm.heap.size]? = some (rngO 0 0 false)) := (heap_alloc_old (wm.alloc (rngO 0 0 false)) _ (heap_lt (heap_alloc_new wm _))).trans (heap_alloc_new wm _)
                have HSD : Hid (((wm.alloc (rngO 0 0 false)).alloc (sekO 0 0)).drew.heap[wm.heap.size + 1]? = some (sekO 0 0)) := by show ((wm.alloc (rngO 0 0 false)).alloc (sekO 0 0)).heap[wm.heap.size + 1]? = _; have := heap_alloc_new (wm.alloc (rngO 0 0 false)) (sekO 0 0); simpa using this
                have HSE : Hid (((wm.alloc (sekO 0 0)).alloc (rngO 0 0 false)).drew.heap[wm.heap.size]? = some (sekO 0 0)) := (heap_alloc_old (wm.alloc (sekO 0 0)) _ (heap_lt (heap_alloc_new wm _))).trans (heap_alloc_new wm _)
                have HRE : Hid (((wm.alloc (sekO 0 0)).alloc (rngO 0 0 false)).drew.heap[wm.heap.size + 1]? = some (rngO 0 0 false)) := by show ((wm.alloc (sekO 0 0)).alloc (rngO 0 0 false)).heap[wm.heap.size + 1]? = _; have := heap_alloc_new (wm.alloc (sekO 0 0)) (rngO 0 0 false); simpa using this
                go_region_held3 (fun (w' : World) => w'.cell? (xa'.add j) = some (.int .i64 x) ∧ w'.cell? ⟨pb, 8, none⟩ = some (.slice (some cad) bn bc) ∧ w'.cell? ⟨pb, 9, none⟩ = some (.int .i64 k1) ∧ w'.cell? ⟨pb, 10, none⟩ = some (.int .i64 k2) ∧ w'.cell? ⟨pb, 11, none⟩ = some (.slice M mn mc) ∧ w'.cell? (cad.add (k * 6)) = some (.int .i64 e0) ∧ w'.cell? ⟨(cad.add (k * 6)).block, (cad.add (k * 6)).off + 1, none⟩ = some (.int .i64 e1) ∧ w'.cell? ⟨(cad.add (k * 6)).block, (cad.add (k * 6)).off + 2, none⟩ = some (.int .i64 e2) ∧ w'.cell? ⟨(cad.add (k * 6)).block, (cad.add (k * 6)).off + 3, none⟩ = some (.int .i64 e3) ∧ w'.cell? ⟨(cad.add (k * 6)).block, (cad.add (k * 6)).off + 4, none⟩ = some (.int .i64 e4) ∧ w'.cell? ⟨(cad.add (k * 6)).block, (cad.add (k * 6)).off + 5, none⟩ = some (.int .i64 e5))
                  ((refine HSA.out _ (HKM.out.trans ?_); repeat' (first | with_reducible exact HK8.out | with_reducible exact Kept.refl _ _ | with_reducible exact hKA | with_reducible exact hKB | with_reducible exact hKC | with_reducible exact hKD | with_reducible exact hKE | with_reducible refine Kept.alloc ?_ _ | with_reducible refine Kept.drew ?_ | with_reducible refine kset ?_ (by first | (simp; done) | (simp; omega)) _ _)))
                  (first
                    | (go_at_call 8; with_reducible refine (HCOF.out _ hKA).mono ?_; rintro e w8 ⟨⟨lo, hi, ln, u, v, er, rfl, htold⟩, hk8⟩; have HTD := Lib.hid htold; have HK8 := Lib.hid (hKA.trans hk8); have hz8 := HK8.out.size; have KC := HSA.out _ (HKM.out.trans HK8.out); clear htold hk8)
                    | (go_at_call 8; with_reducible refine (HCOF.out _ hKB).mono ?_; rintro e w8 ⟨⟨lo, hi, ln, u, v, er, rfl, htold⟩, hk8⟩; have HTD := Lib.hid htold; have HK8 := Lib.hid (hKB.trans hk8); have hz8 := HK8.out.size; have KC := HSA.out _ (HKM.out.trans HK8.out); have HR8 := Lib.hid (show w8.heap[wm.heap.size]? = some (rngO 0 0 false) from (hk8.block _ (heap_lt HRB.out) id).trans HRB.out); have hlr := heap_lt HR8.out; obtain ⟨d0, d1, d2⟩ := rng_facts HR8.out; obtain ⟨y0, y1, y2⟩ := rng_free HR8.out; clear htold hk8)
                    | (go_at_call 8; with_reducible refine (HCOF.out _ hKC).mono ?_; rintro e w8 ⟨⟨lo, hi, ln, u, v, er, rfl, htold⟩, hk8⟩; have HTD := Lib.hid htold; have HK8 := Lib.hid (hKC.trans hk8); have hz8 := HK8.out.size; have KC := HSA.out _ (HKM.out.trans HK8.out); have HS8 := Lib.hid (show w8.heap[wm.heap.size]? = some (sekO 0 0) from (hk8.block _ (heap_lt HSC.out) id).trans HSC.out); have hls := heap_lt HS8.out; obtain ⟨z0, z1, z2, z3⟩ := two_facts HS8.out; clear htold hk8)
                    | (go_at_call 8; with_reducible refine (HCOF.out _ hKD).mono ?_; rintro e w8 ⟨⟨lo, hi, ln, u, v, er, rfl, htold⟩, hk8⟩; have HTD := Lib.hid htold; have HK8 := Lib.hid (hKD.trans hk8); have hz8 := HK8.out.size; have KC := HSA.out _ (HKM.out.trans HK8.out); have HR8 := Lib.hid (show w8.heap[wm.heap.size]? = some (rngO 0 0 false) from (hk8.block _ (heap_lt HRD.out) id).trans HRD.out); have hlr := heap_lt HR8.out; obtain ⟨d0, d1, d2⟩ := rng_facts HR8.out; obtain ⟨y0, y1, y2⟩ := rng_free HR8.out; have HS8 := Lib.hid (show w8.heap[wm.heap.size + 1]? = some (sekO 0 0) from (hk8.block _ (heap_lt HSD.out) id).trans HSD.out); have hls := heap_lt HS8.out; obtain ⟨z0, z1, z2, z3⟩ := two_facts HS8.out; clear htold hk8)
                    | (go_at_call 8; with_reducible refine (HCOF.out _ hKE).mono ?_; rintro e w8 ⟨⟨lo, hi, ln, u, v, er, rfl, htold⟩, hk8⟩; have HTD := Lib.hid htold; have HK8 := Lib.hid (hKE.trans hk8); have hz8 := HK8.out.size; have KC := HSA.out _ (HKM.out.trans HK8.out); have HS8 := Lib.hid (show w8.heap[wm.heap.size]? = some (sekO 0 0) from (hk8.block _ (heap_lt HSE.out) id).trans HSE.out); have hls := heap_lt HS8.out; obtain ⟨z0, z1, z2, z3⟩ := two_facts HS8.out; have HR8 := Lib.hid (show w8.heap[wm.heap.size + 1]? = some (rngO 0 0 false) from (hk8.block _ (heap_lt HRE.out) id).trans HRE.out); have hlr := heap_lt HR8.out; obtain ⟨d0, d1, d2⟩ := rng_facts HR8.out; obtain ⟨y0, y1, y2⟩ := rng_free HR8.out; clear htold hk8))
                · go_wp2_with fail
                  go_meet
                  exact ⟨w8.heap.size, w8.heap.size + 1, lo, hi, ln, u, v, er, rfl, rfl, rfl, HTD.out, hz8, by omega, by omega, (heap_alloc_old (w8.alloc _) _ (heap_lt (heap_alloc_new w8 _))).trans (heap_alloc_new w8 _), alloc_at _ _ (by simp), (by repeat' (first | with_reducible exact HK8.out | with_reducible refine Kept.alloc ?_ _ | with_reducible refine kset ?_ (by first | (simp; done) | (simp; omega)) _ _))⟩
                · go_wp2_with fail
                  go_meet
                  exact ⟨w8.heap.size + 1, w8.heap.size, lo, hi, ln, u, v, er, rfl, rfl, rfl, HTD.out, by omega, hz8, by omega, alloc_at _ _ (by simp), (heap_alloc_old (w8.alloc _) _ (heap_lt (heap_alloc_new w8 _))).trans (heap_alloc_new w8 _), (by repeat' (first | with_reducible exact HK8.out | with_reducible refine Kept.alloc ?_ _ | with_reducible refine kset ?_ (by first | (simp; done) | (simp; omega)) _ _))⟩
                · go_wp2_with fail
                  go_meet
                  exact ⟨wm.heap.size, w8.heap.size, lo, hi, ln, u, v, er, rfl, rfl, rfl, HTD.out, Nat.le_refl _, hz8, by omega, (heap_alloc_old _ _ (heap_lt (rng_three HR8.out _ _ _))).trans (rng_three HR8.out _ _ _), alloc_at _ _ (by simp), (by repeat' (first | with_reducible exact HK8.out | with_reducible refine Kept.alloc ?_ _ | with_reducible refine kset ?_ (by first | (simp; done) | (simp; omega)) _ _))⟩
                · go_wp2_with fail
                  go_meet
                  exact ⟨wm.heap.size, wm.heap.size + 1, lo, hi, ln, u, v, er, rfl, rfl, rfl, HTD.out, Nat.le_refl _, by omega, by omega, (heap_far (by omega) _).trans ((heap_far (by omega) _).trans (rng_three HR8.out _ _ _)), set_two ((heap_far (by omega) _).trans ((heap_far (by omega) _).trans ((heap_far (by omega) _).trans (HS8.out)))) _ _, (by repeat' (first | with_reducible exact HK8.out | with_reducible refine Kept.alloc ?_ _ | with_reducible refine kset ?_ (by first | (simp; done) | (simp; omega)) _ _))⟩
                · go_wp2_with fail
                  go_meet
                  exact ⟨w8.heap.size, wm.heap.size, lo, hi, ln, u, v, er, rfl, rfl, rfl, HTD.out, hz8, Nat.le_refl _, by omega, alloc_at _ _ (by simp), (heap_alloc_old _ _ (heap_lt (set_two HS8.out _ _))).trans (set_two HS8.out _ _), (by repeat' (first | with_reducible exact HK8.out | with_reducible refine Kept.alloc ?_ _ | with_reducible refine kset ?_ (by first | (simp; done) | (simp; omega)) _ _))⟩
                · go_wp2_with fail
                  go_meet
                  exact ⟨wm.heap.size + 1, wm.heap.size, lo, hi, ln, u, v, er, rfl, rfl, rfl, HTD.out, by omega, Nat.le_refl _, by omega, (heap_far (by omega) _).trans ((heap_far (by omega) _).trans (rng_three HR8.out _ _ _)), set_two ((heap_far (by omega) _).trans ((heap_far (by omega) _).trans ((heap_far (by omega) _).trans (HS8.out)))) _ _, (by repeat' (first | with_reducible exact HK8.out | with_reducible refine Kept.alloc ?_ _ | with_reducible refine kset ?_ (by first | (simp; done) | (simp; omega)) _ _))⟩
              case rest =>
                obtain ⟨ga, gb, lo, hi, ln, u, v, er, rfl, rfl, rfl, htold, hga, hgb, hgne, hra, hsb, hk9⟩ := hcut
                have HTD := Lib.hid htold
                have HGA0 : Hid (((wc.alloc (rngO 0 0 false)).alloc (sekO 0 0)).heap[ga]? = some (rngO lo hi ln)) := (heap_alloc_old (wc.alloc (rngO 0 0 false)) _ (Nat.lt_of_lt_of_le (heap_lt hra) (by simp))).trans ((heap_alloc_old wc _ (heap_lt hra)).trans hra)
                have HGB0 : Hid (((wc.alloc (rngO 0 0 false)).alloc (sekO 0 0)).heap[gb]? = some (sekO u v)) := (heap_alloc_old (wc.alloc (rngO 0 0 false)) _ (Nat.lt_of_lt_of_le (heap_lt hsb) (by simp))).trans ((heap_alloc_old wc _ (heap_lt hsb)).trans hsb)
                have HZA0 : Hid (((wc.alloc (rngO 0 0 false)).alloc (sekO 0 0)).heap[wc.heap.size]? = some (rngO 0 0 false)) := (heap_alloc_old (wc.alloc (rngO 0 0 false)) _ (heap_lt (heap_alloc_new wc _))).trans (heap_alloc_new wc _)
                have HZB0 : Hid (((wc.alloc (rngO 0 0 false)).alloc (sekO 0 0)).heap[wc.heap.size + 1]? = some (sekO 0 0)) := by show _ = _; exact alloc_at _ _ (by simp)
                have HKZ0 := Lib.hid ((hk9.alloc (rngO 0 0 false)).alloc (sekO 0 0))
                have hza : ga < wc.heap.size := heap_lt hra
                have hzb : gb < wc.heap.size := heap_lt hsb
                have hzm : wm.heap.size ≤ wc.heap.size := hk9.size
                clear htold hra hsb hk9 hga hgb
                go_upto_region 18 with fail
                generalize (wc.alloc (rngO 0 0 false)).alloc (sekO 0 0) = wz at *
                generalize wc.heap.size = zb at *
                have HGA := Lib.hid HGA0.out
                have HGB := Lib.hid HGB0.out
                have HZA := Lib.hid HZA0.out
                have HZB := Lib.hid HZB0.out
                have HKZ := Lib.hid HKZ0.out
                clear HGA0 HGB0 HZA0 HZB0 HKZ0
                obtain ⟨G, hG⟩ : ∃ G : Bool, (G = true ↔ GoodS s x e1 e2 e3 e4 k1 marks) := by
                  by_cases hgs : GoodS s x e1 e2 e3 e4 k1 marks
                  · exact ⟨true, fun _ => hgs, fun _ => rfl⟩
                  · exact ⟨false, fun hh => (by cases hh), fun hh => absurd hh hgs⟩
                have HG := Lib.hid hG
                have HTZ := Lib.hid (HTK.out.kept (HKM.out.trans HKZ.out) id id)
                clear hG KA
                go_cut [106] from 88 to 106 (fun v wx => v = .bool G ∧ Kept (fun _ => False) wz wx)
                case first =>
                  have hTd : Tabs wz.drew := HTZ.out
                  have cMay := rmay_any s wz.drew hs9 hTd
                  have KA := HSA.out _ (HKM.out.trans HKZ.out.drew)
                  by_cases h1 : mayB s = true
                  case neg =>
                    obtain rfl : G = false := by
                      cases G
                      · rfl
                      · exact absurd (HG.out.1 rfl).1 h1
                    rw [Bool.not_eq_true] at h1
                    rw [h1] at cMay
                    clear h1
                    refine wp_region_noPanic ?_
                    refine wp_region_held_drew (S := fun (w' : World) => w'.cell? (xa'.add j) = some (.int .i64 x) ∧ w'.cell? ⟨pb, 8, none⟩ = some (.slice (some cad) bn bc) ∧ w'.cell? ⟨pb, 9, none⟩ = some (.int .i64 k1) ∧ w'.cell? ⟨pb, 10, none⟩ = some (.int .i64 k2) ∧ w'.cell? ⟨pb, 11, none⟩ = some (.slice M mn mc) ∧ w'.cell? (cad.add (k * 6)) = some (.int .i64 e0) ∧ w'.cell? ⟨(cad.add (k * 6)).block, (cad.add (k * 6)).off + 1, none⟩ = some (.int .i64 e1) ∧ w'.cell? ⟨(cad.add (k * 6)).block, (cad.add (k * 6)).off + 2, none⟩ = some (.int .i64 e2) ∧ w'.cell? ⟨(cad.add (k * 6)).block, (cad.add (k * 6)).off + 3, none⟩ = some (.int .i64 e3) ∧ w'.cell? ⟨(cad.add (k * 6)).block, (cad.add (k * 6)).off + 4, none⟩ = some (.int .i64 e4) ∧ w'.cell? ⟨(cad.add (k * 6)).block, (cad.add (k * 6)).off + 5, none⟩ = some (.int .i64 e5)) (by kernel_rfl) KA (fun hHeld => ?_)
                    refine wpAnyH_take (i := 0) (oi := _) (v := .string s) rfl (by kernel_rfl) (by kernel_rfl) (by kernel_rfl) (fun _ _ _ h => h) (Or.inl ⟨by rfl, fun w hSw => by go_simp⟩) (by assumption) ?_
                    try simp only [Act.put, List.setIfInBounds_toArray, List.set_cons_zero, List.set_cons_succ]
                    refine wpAnyH_ready (rs := [1]) (by kernel_rfl) (by simp) ?_
                    refine AllReadyH.cons rfl (fun K hK => ?_) AllReadyH.nil
                    go_simp
                    refine cMay.mono ?_
                    rintro e w10 ⟨rfl, hk10⟩
                    have HZ10 := Lib.hid ((Kept.refl _ wz).drew.trans hk10)
                    have KC := HSA.out _ (HKM.out.trans (HKZ.out.trans HZ10.out))
                    refine hK.out _ _ KC (fun hHeld2 => ?_)
                    clear hK K hk10
                    try simp only [Act.put, List.setIfInBounds_toArray, List.set_cons_zero, List.set_cons_succ]
                    refine wpAnyH_take (i := 2) (oi := _) (v := .bool false) rfl (by kernel_rfl) (by kernel_rfl) (by kernel_rfl) (fun _ _ _ h => h) (Or.inl ⟨by rfl, fun w hSw => by go_simp⟩) (by assumption) ?_
                    try simp only [Act.put, List.setIfInBounds_toArray, List.set_cons_zero, List.set_cons_succ]
                    refine wpAnyH_take (i := 3) (oi := _) (v := undef) rfl (by kernel_rfl) (by kernel_rfl) (by kernel_rfl) (fun _ _ _ h => h) (Or.inr ⟨by kernel_rfl, rfl⟩) (by assumption) ?_
                    try simp only [Act.put, List.setIfInBounds_toArray, List.set_cons_zero, List.set_cons_succ]
                    refine wpAnyH_take (i := 4) (oi := _) (v := undef) rfl (by kernel_rfl) (by kernel_rfl) (by kernel_rfl) (fun _ _ _ h => h) (Or.inr ⟨by kernel_rfl, rfl⟩) (by assumption) ?_
                    try simp only [Act.put, List.setIfInBounds_toArray, List.set_cons_zero, List.set_cons_succ]
                    refine wpAnyH_take (i := 5) (oi := _) (v := undef) rfl (by kernel_rfl) (by kernel_rfl) (by kernel_rfl) (fun _ _ _ h => h) (Or.inr ⟨by kernel_rfl, rfl⟩) (by assumption) ?_
                    try simp only [Act.put, List.setIfInBounds_toArray, List.set_cons_zero, List.set_cons_succ]
                    refine wpAnyH_take (i := 6) (oi := _) (v := undef) rfl (by kernel_rfl) (by kernel_rfl) (by kernel_rfl) (fun _ _ _ h => h) (Or.inr ⟨by kernel_rfl, rfl⟩) (by assumption) ?_
                    try simp only [Act.put, List.setIfInBounds_toArray, List.set_cons_zero, List.set_cons_succ]
                    refine wpAnyH_take (i := 7) (oi := _) (v := undef) rfl (by kernel_rfl) (by kernel_rfl) (by kernel_rfl) (fun _ _ _ h => h) (Or.inr ⟨by kernel_rfl, rfl⟩) (by assumption) ?_
                    try simp only [Act.put, List.setIfInBounds_toArray, List.set_cons_zero, List.set_cons_succ]
                    refine wpAnyH_take (i := 8) (oi := _) (v := undef) rfl (by kernel_rfl) (by kernel_rfl) (by kernel_rfl) (fun _ _ _ h => h) (Or.inr ⟨by kernel_rfl, rfl⟩) (by assumption) ?_
                    try simp only [Act.put, List.setIfInBounds_toArray, List.set_cons_zero, List.set_cons_succ]
                    refine wpAnyH_take (i := 9) (oi := _) (v := undef) rfl (by kernel_rfl) (by kernel_rfl) (by kernel_rfl) (fun _ _ _ h => h) (Or.inr ⟨by kernel_rfl, rfl⟩) (by assumption) ?_
                    try simp only [Act.put, List.setIfInBounds_toArray, List.set_cons_zero, List.set_cons_succ]
                    refine wpAnyH_take (i := 10) (oi := _) (v := undef) rfl (by kernel_rfl) (by kernel_rfl) (by kernel_rfl) (fun _ _ _ h => h) (Or.inr ⟨by kernel_rfl, rfl⟩) (by assumption) ?_
                    try simp only [Act.put, List.setIfInBounds_toArray, List.set_cons_zero, List.set_cons_succ]
                    refine wpAnyH_take (i := 11) (oi := _) (v := undef) rfl (by kernel_rfl) (by kernel_rfl) (by kernel_rfl) (fun _ _ _ h => h) (Or.inr ⟨by kernel_rfl, rfl⟩) (by assumption) ?_
                    try simp only [Act.put, List.setIfInBounds_toArray, List.set_cons_zero, List.set_cons_succ]
                    refine wpAnyH_take (i := 12) (oi := _) (v := undef) rfl (by kernel_rfl) (by kernel_rfl) (by kernel_rfl) (fun _ _ _ h => h) (Or.inr ⟨by kernel_rfl, rfl⟩) (by assumption) ?_
                    try simp only [Act.put, List.setIfInBounds_toArray, List.set_cons_zero, List.set_cons_succ]
                    refine wpAnyH_take (i := 13) (oi := _) (v := undef) rfl (by kernel_rfl) (by kernel_rfl) (by kernel_rfl) (fun _ _ _ h => h) (Or.inr ⟨by kernel_rfl, rfl⟩) (by assumption) ?_
                    try simp only [Act.put, List.setIfInBounds_toArray, List.set_cons_zero, List.set_cons_succ]
                    refine wpAnyH_take (i := 14) (oi := _) (v := undef) rfl (by kernel_rfl) (by kernel_rfl) (by kernel_rfl) (fun _ _ _ h => h) (Or.inr ⟨by kernel_rfl, rfl⟩) (by assumption) ?_
                    try simp only [Act.put, List.setIfInBounds_toArray, List.set_cons_zero, List.set_cons_succ]
                    refine wpAnyH_take (i := 15) (oi := _) (v := undef) rfl (by kernel_rfl) (by kernel_rfl) (by kernel_rfl) (fun _ _ _ h => h) (Or.inr ⟨by kernel_rfl, rfl⟩) (by assumption) ?_
                    try simp only [Act.put, List.setIfInBounds_toArray, List.set_cons_zero, List.set_cons_succ]
                    refine wpAnyH_take (i := 16) (oi := _) (v := undef) rfl (by kernel_rfl) (by kernel_rfl) (by kernel_rfl) (fun _ _ _ h => h) (Or.inr ⟨by kernel_rfl, rfl⟩) (by assumption) ?_
                    try simp only [Act.put, List.setIfInBounds_toArray, List.set_cons_zero, List.set_cons_succ]
                    refine wpAnyH_take (i := 17) (oi := _) (v := undef) rfl (by kernel_rfl) (by kernel_rfl) (by kernel_rfl) (fun _ _ _ h => h) (Or.inr ⟨by kernel_rfl, rfl⟩) (by assumption) ?_
                    try simp only [Act.put, List.setIfInBounds_toArray, List.set_cons_zero, List.set_cons_succ]
                    refine wpAnyH_take (i := 18) (oi := _) (v := .bool false) rfl (by kernel_rfl) (by kernel_rfl) (by kernel_rfl) (fun _ _ _ h => h) (Or.inl ⟨by rfl, fun w hSw => by go_simp⟩) (by assumption) ?_
                    try simp only [Act.put, List.setIfInBounds_toArray, List.set_cons_zero, List.set_cons_succ]
                    refine wpAnyH_done (by kernel_rfl) ?_ _
                    refine NoPanic.normal ?_
                    go_wp2_with fail
                    go_meet
                    exact ⟨rfl, HZ10.out⟩
                  rw [h1] at cMay
                  have cMO : ∀ W, Kept (fun _ => False) wz W → Calls Tryz.prog 10 #[.slice (some ⟨rb, 0, none⟩) t.length cap, .int .i64 x, .agg #[.int .i64 e0, .int .i64 e1, .int .i64 e2, .int .i64 e3, .int .i64 e4, .int .i64 e5], .agg #[.int .i64 k1, .int .i64 k2], .slice M mn mc] W fun e w' => e = .returned (.bool G) ∧ Kept (fun _ => False) W w' := fun W hk' => by
                    have hA' := HMK.out.kept (HKM.out.trans (HKZ.out.trans hk')) (fun _ _ => id)
                    by_cases hgf : GoodF t.length x e1 e2 e3 e4 k1 marks
                    · have hgt : G = true := HG.out.2 ⟨h1, by rw [HT2.out]; exact hgf⟩
                      rw [hgt]
                      exact rmo_yes _ cap t x e0 e1 e2 e3 e4 e5 k1 k2 M mn mc marks W (by have := HTl.out; omega) hA' hmn hgf
                    · have hgt : G = false := by
                        cases G
                        · rfl
                        · exact absurd (by have := (HG.out.1 rfl).2; rw [HT2.out] at this; exact this) hgf
                      rw [hgt]
                      exact rmo_no _ cap t x e0 e1 e2 e3 e4 e5 k1 k2 M mn mc marks W (by have := HTl.out; omega) hA' hmn hgf
                  have HMO := Lib.hid cMO
                  clear h1 cMO
                  go_region_held3 (fun (w' : World) => w'.cell? (xa'.add j) = some (.int .i64 x) ∧ w'.cell? ⟨pb, 8, none⟩ = some (.slice (some cad) bn bc) ∧ w'.cell? ⟨pb, 9, none⟩ = some (.int .i64 k1) ∧ w'.cell? ⟨pb, 10, none⟩ = some (.int .i64 k2) ∧ w'.cell? ⟨pb, 11, none⟩ = some (.slice M mn mc) ∧ w'.cell? (cad.add (k * 6)) = some (.int .i64 e0) ∧ w'.cell? ⟨(cad.add (k * 6)).block, (cad.add (k * 6)).off + 1, none⟩ = some (.int .i64 e1) ∧ w'.cell? ⟨(cad.add (k * 6)).block, (cad.add (k * 6)).off + 2, none⟩ = some (.int .i64 e2) ∧ w'.cell? ⟨(cad.add (k * 6)).block, (cad.add (k * 6)).off + 3, none⟩ = some (.int .i64 e3) ∧ w'.cell? ⟨(cad.add (k * 6)).block, (cad.add (k * 6)).off + 4, none⟩ = some (.int .i64 e4) ∧ w'.cell? ⟨(cad.add (k * 6)).block, (cad.add (k * 6)).off + 5, none⟩ = some (.int .i64 e5)) (first | with_reducible exact KD | with_reducible exact KC | with_reducible exact KA)
                    (first
                      | (go_at_call 9; refine cMay.mono ?_; rintro e w10 ⟨rfl, hk10⟩; have HZ10 := Lib.hid ((Kept.refl _ wz).drew.trans hk10); have KC := HSA.out _ (HKM.out.trans (HKZ.out.trans HZ10.out)); clear hk10)
                      | (go_at_call 10; refine (HMO.out _ HZ10.out).mono ?_; rintro e w11 ⟨rfl, hk11⟩; have HZ11 := Lib.hid (HZ10.out.trans hk11); have KD := HSA.out _ (HKM.out.trans (HKZ.out.trans HZ11.out)); clear hk11))
                  go_wp2_with fail
                  go_meet
                  exact ⟨rfl, HZ11.out⟩
                case rest =>
                  obtain ⟨rfl, hk12⟩ := hcut
                  have HZW := Lib.hid hk12
                  have HKW := Lib.hid (HKZ.out.trans hk12)
                  have HGA1 := Lib.hid ((hk12.block ga (heap_lt HGA.out) id).trans HGA.out)
                  have HGB1 := Lib.hid ((hk12.block gb (heap_lt HGB.out) id).trans HGB.out)
                  have HZA1 := Lib.hid ((hk12.block zb (heap_lt HZA.out) id).trans HZA.out)
                  have HZB1 := Lib.hid ((hk12.block (zb + 1) (heap_lt HZB.out) id).trans HZB.out)
                  clear hk12
                  cases G with
                  | false =>
                    obtain ⟨rfl, rfl, rfl, rfl, rfl, rfl⟩ := HTD.out.2 (fun hh => by have := HG.out.2 hh; cases this)
                    obtain ⟨y0, y1, y2⟩ := rng_facts HGA1.out
                    obtain ⟨z0, z1, z2⟩ := rng_facts HZA1.out
                    obtain ⟨o0, o1, _, _⟩ := two_facts HGB1.out
                    obtain ⟨n0', n1', _, _⟩ := two_facts HZB1.out
                    obtain ⟨r0, r1, r2, r3, r4, r5, r6, r7, r8, r9, r10⟩ := HSA.out _ (HKM.out.trans HKW.out)
                    have cE := eqmarks_yes Bb M mn cc mc marks _ (HBM.out.kept HKW.out (fun _ _ => id)) (HMK.out.kept (HKM.out.trans HKW.out) (fun _ _ => id)) hmn
                    go_wp2_with (first
                      | (go_at_call 12; refine (r17num_any _ _).mono ?_; rintro e w' ⟨rfl, hw⟩; have hw2 := hw.symm; subst hw2)
                      | (go_at_call 13; refine cE.mono ?_; rintro e w14 ⟨rfl, hk14⟩))
                    go_roundw
                    case rel => exact ⟨k + 1, by omega, by omega, by go_num, HKK.out.trans ((HKM.out.trans HKW.out).trans hk14)⟩
                    case measure => simp [intOf]; omega
                  | true =>
                    have hgood := HG.out.1 rfl
                    have hRT0 := HTD.out.1 hgood
                    obtain ⟨hm, hop, ⟨x0, x1⟩, ⟨y0, y1⟩, hsk, hmo, hway⟩ := hgood
                    obtain ⟨xx, rfl⟩ := Int.eq_ofNat_of_zero_le x0
                    obtain ⟨ee, rfl⟩ := Int.eq_ofNat_of_zero_le y0
                    have hry : Runey t := by rw [← HT2.out]; exact rs_runey (mayB_valid hm)
                    rw [HT2.out] at hRT0 x1
                    simp only [Int.toNat_natCast] at hRT0
                    have HRP := Lib.hid (fun (W : World) (hW : Kept (fun _ => False) wm W) => rof_yes (some ⟨rb, 0, none⟩) cap t xx ee e0 e2 e3 e4 e5 k1 k2 M mn mc marks W (HR3.out.kept (HKV.out.trans (HKM.out.trans hW)) (fun _ _ => id)) hry HTl.out (by omega) (by omega) hsk (HMK.out.kept (HKM.out.trans hW) (fun _ _ => id)) hmn hmo hway)
                    rw [hRT0] at HRP
                    have cRp := HRP.out _ HKW.out.drew
                    have KA := HSA.out _ (HKM.out.trans HKW.out.drew)
                    clear hRT0 hm x0 x1 y0 y1 hop hsk hmo hway hry HRP
                    go_upto_region 19 with fail
                    go_cut [13] from 107 to 125 (fun s13 wx => s13 = .int .i64 er ∧ wx.heap[zb]? = some (rngO lo hi ln) ∧ wx.heap[zb + 1]? = some (sekO u v) ∧ wx.heap[ga]? = some (rngO lo hi ln) ∧ wx.heap[gb]? = some (sekO u v) ∧ Kept (fun _ => False) wm wx)
                    case first =>
                      go_region_held3 (fun (w' : World) => w'.cell? (xa'.add j) = some (.int .i64 (xx : Nat)) ∧ w'.cell? ⟨pb, 8, none⟩ = some (.slice (some cad) bn bc) ∧ w'.cell? ⟨pb, 9, none⟩ = some (.int .i64 k1) ∧ w'.cell? ⟨pb, 10, none⟩ = some (.int .i64 k2) ∧ w'.cell? ⟨pb, 11, none⟩ = some (.slice M mn mc) ∧ w'.cell? (cad.add (k * 6)) = some (.int .i64 e0) ∧ w'.cell? ⟨(cad.add (k * 6)).block, (cad.add (k * 6)).off + 1, none⟩ = some (.int .i64 (ee : Nat)) ∧ w'.cell? ⟨(cad.add (k * 6)).block, (cad.add (k * 6)).off + 2, none⟩ = some (.int .i64 e2) ∧ w'.cell? ⟨(cad.add (k * 6)).block, (cad.add (k * 6)).off + 3, none⟩ = some (.int .i64 e3) ∧ w'.cell? ⟨(cad.add (k * 6)).block, (cad.add (k * 6)).off + 4, none⟩ = some (.int .i64 e4) ∧ w'.cell? ⟨(cad.add (k * 6)).block, (cad.add (k * 6)).off + 5, none⟩ = some (.int .i64 e5))
                        ((refine HSA.out _ (HKM.out.trans ?_); repeat' (first | with_reducible exact HK8.out | with_reducible exact HKW.out | with_reducible refine Kept.drew ?_ | with_reducible refine kset ?_ (by first | (simp; done) | (simp; omega) | omega) _ _)))
                        ((go_at_call 11; refine cRp.mono ?_; rintro e w13 ⟨rfl, hk13⟩; have HK8 := Lib.hid (HKW.out.drew.trans hk13); have HA8 := Lib.hid ((hk13.block ga (heap_lt HGA1.out) id).trans HGA1.out); have HB8 := Lib.hid ((hk13.block gb (heap_lt HGB1.out) id).trans HGB1.out); have HR8 := Lib.hid ((hk13.block zb (heap_lt HZA1.out) id).trans HZA1.out); have HS8 := Lib.hid ((hk13.block (zb + 1) (heap_lt HZB1.out) id).trans HZB1.out); have KC := HSA.out _ (HKM.out.trans HK8.out); obtain ⟨d0, d1, d2⟩ := rng_facts HR8.out; obtain ⟨y0, y1, y2⟩ := rng_free HR8.out; obtain ⟨z0, z1, z2, z3⟩ := two_facts HS8.out; clear hk13))
                      go_wp2_with fail
                      go_meet
                      exact ⟨rfl, (heap_far (by omega) _).trans ((heap_far (by omega) _).trans (rng_three HR8.out _ _ _)), set_two ((heap_far (by omega) _).trans ((heap_far (by omega) _).trans ((heap_far (by omega) _).trans (HS8.out)))) _ _, (heap_far (by omega) _).trans ((heap_far (by omega) _).trans ((heap_far (by omega) _).trans ((heap_far (by omega) _).trans ((heap_far (by omega) _).trans (HA8.out))))), (heap_far (by omega) _).trans ((heap_far (by omega) _).trans ((heap_far (by omega) _).trans ((heap_far (by omega) _).trans ((heap_far (by omega) _).trans (HB8.out))))), (by repeat' (first | with_reducible exact HK8.out | with_reducible refine kset ?_ (by omega) _ _))⟩
                    case rest =>
                      obtain ⟨rfl, hz9, hy9, ha9, hb9, hk9⟩ := hcut
                      clear KA cRp
                      have HK9 := Lib.hid hk9
                      obtain ⟨y0, y1, y2⟩ := rng_facts ha9
                      obtain ⟨z0, z1, z2⟩ := rng_facts hz9
                      obtain ⟨o0, o1, _, _⟩ := two_facts hb9
                      obtain ⟨n0', n1', _, _⟩ := two_facts hy9
                      obtain ⟨r0, r1, r2, r3, r4, r5, r6, r7, r8, r9, r10⟩ := HSA.out _ (HKM.out.trans hk9)
                      have cE := eqmarks_yes Bb M mn cc mc marks _ (HBM.out.kept hk9 (fun _ _ => id)) (HMK.out.kept (HKM.out.trans hk9) (fun _ _ => id)) hmn
                      clear hk9 hz9 hy9 ha9 hb9
                      go_wp2_with (first
                        | (go_at_call 12; refine (r17num_any _ _).mono ?_; rintro e w' ⟨rfl, hw⟩; have hw2 := hw.symm; subst hw2)
                        | (go_at_call 13; refine cE.mono ?_; rintro e w14 ⟨rfl, hk14⟩))
                      go_roundw
                      case rel => exact ⟨k + 1, by omega, by omega, by go_num, HKK.out.trans ((HKM.out.trans HK9.out).trans hk14)⟩
                      case measure => simp [intOf]; omega
            · have hlast : (k = bn ∧ k < 12) ∨ (k < bn ∧ k = 12) ∨ (k = bn ∧ k = 12) := by omega
              rcases hlast with ⟨h1, h2⟩ | ⟨h1, h2⟩ | ⟨h1, h2⟩
              case' inl | inr.inr => have b1 : decide (k < bn) = false := by simp; omega
              case' inr.inl =>
                have b1 : decide (k < bn) = true := by simp; omega
                have b2 : decide (k < 12) = false := by simp; omega
                have b3 : decide ((k : Int) < 12) = false := by simp; omega
              all_goals
                clear h1 h2
                go_wp2_with fail
                go_roundw
                case rel => exact ⟨j + 1, by omega, by omega, by go_num, HKV.out⟩
                case measure => simp [intOf]; omega
        · have hlast : (j = m ∧ j < 8) ∨ (j < m ∧ j = 8) ∨ (j = m ∧ j = 8) := by omega
          rcases hlast with ⟨h1, h2⟩ | ⟨h1, h2⟩ | ⟨h1, h2⟩
          case' inl | inr.inr => have b1 : decide (j < m) = false := by simp; omega
          case' inr.inl =>
            have b1 : decide (j < m) = true := by simp; omega
            have b2 : decide (j < 8) = false := by simp; omega
            have b3 : decide ((j : Int) < 8) = false := by simp; omega
          all_goals
            clear h1 h2
            go_wp2_with fail
            go_roundw
            case rel => exact ⟨i + 1, by omega, by omega, by go_num, HKW3.out.trans HKJ.out⟩
            case measure => simp [intOf]; omega
    · have hlast : (i = n0 ∧ i < 3) ∨ (i < n0 ∧ i = 3) ∨ (i = n0 ∧ i = 3) := by omega
      have cW := wakes17_any wi (HT1.out.kept HKW.out id id)
      rcases hlast with ⟨h1, h2⟩ | ⟨h1, h2⟩ | ⟨h1, h2⟩
      case' inl | inr.inr => have b1 : decide (i < n0) = false := by simp; omega
      case' inr.inl =>
        have b1 : decide (i < n0) = true := by simp; omega
        have b2 : decide (i < 3) = false := by simp; omega
        have b3 : decide ((i : Int) < 3) = false := by simp; omega
      all_goals
        clear h1 h2
        go_wp2_with (go_at_call 14; refine cW.mono ?_; rintro e w9 ⟨rfl, hk9⟩)
        go_ret
        exact ⟨rfl, (HK1.out.trans HKW.out).trans hk9⟩
end Go.Proofs.YtbofjefblhnkoaaGreatDoor
