/-
  LOWER: spotOf, hasRoom, mayPatch.
-/
import Derived.Test.YthkohjijppbliaaDoorLpD
import Derived.Test.YthkohjijppbliaaDoorLMf
import Derived.Test.YthkohjijppbliaaDoorLpA
set_option linter.unusedVariables false
namespace Go.Proofs.YthkohjijppbliaaDoor
open Go Go.RowKit

set_option maxRecDepth 100000 in
set_option maxHeartbeats 4000000 in
theorem spotof_any (L : List ElemS) (v : Value) (m : Nat) (w : World) (h : Se w v L) (hn : L.length ≤ 100000) (hm : m ≤ 100000) :
    Calls Tryd.prog 51 #[v, .int .i64 (m : Int)] w fun e w' => e = .returned (.tuple #[.int .i64 (spotL L m).1, .int .i64 ((spotL L m).2 : Int)]) ∧ Kept (fun _ => False) w w' := by
  obtain ⟨A, c, rfl, hA, _, _⟩ := h.open'
  obtain ⟨n, hN⟩ : ∃ n, L.length = n := ⟨_, rfl⟩
  rw [hN] at hA hn ⊢
  obtain ⟨r1, r2, hR⟩ : ∃ r1 r2, spotL L m = (r1, r2) := ⟨_, _, rfl⟩
  rw [hR]
  have HR : Hid (spotF L m 0 (-1) = (r1, r2)) := hR
  have HA := Lib.hid hA
  have HN := Lib.hid hN
  clear h hA hN hR
  go_enter Tryd.func51, Tryd.ntmps51
  go_wp2_with fail
  go_loopw [1, 4, 10] (fun u1 u4 v wr => ∃ (k q : Nat) (a : Int), k ≤ n ∧ v = .int .i64 k ∧ u1 = .int .i64 q ∧ u4 = .int .i64 a ∧ q ≤ 100000 ∧ spotF (L.drop k) q k a = (r1, r2) ∧ Kept (fun _ => False) w wr) (fun _ _ v _ => n - (intOf v).toNat)
  case atStart => exact ⟨0, m, -1, Nat.zero_le _, rfl, rfl, rfl, hm, HR.out, Kept.refl _ _⟩
  case round =>
    obtain ⟨k, q, a, hk, rfl, rfl, rfl, hq, hsp, hkept⟩ := hrel
    have HK := Lib.hid hkept
    have HSP := Lib.hid hsp
    clear hkept hsp
    by_cases hlt : k < n
    · obtain ⟨ad, e, rfl, he, h4'⟩ := (HA.out.kept HK.out (fun _ _ => id)).at_ hlt
      have c0 := h4'.c0
      have c1 := h4'.c1
      have c2 := h4'.c2
      have c3 := h4'.c3
      have b1 : decide (k < n) = true := decide_eq_true hlt
      have b2 : decide ((k : Int) < (n : Int)) = true := decide_eq_true (by omega)
      have t1 : (0 : Int) ≤ (k : Int) := by omega
      have t2 : (k : Int) < (n : Int) := by omega
      have hk5 : Kept (fun _ => False) wr (wr.alloc (elemO e)) := (Kept.refl _ wr).alloc _
      have HE5 : Hid (El4 (wr.alloc (elemO e)) ⟨wr.heap.size, 0, none⟩ e) := el4_new
      have HK5 := Lib.hid (HK.out.trans hk5)
      have hdr : L.drop k = e :: L.drop (k + 1) := by
        obtain ⟨hl, hg⟩ := List.getElem?_eq_some_iff.1 he
        rw [← hg]; exact List.drop_eq_getElem_cons hl
      have HDR : Hid (e.d = true → spotF (L.drop (k + 1)) q (k + 1) a = (r1, r2)) := by
        show _ → _
        intro h
        have h1 := HSP.out
        rw [hdr] at h1
        unfold spotF at h1
        rw [if_pos h] at h1
        exact h1
      have HD0 : Hid (e.d = false → q = 0 → (a, k) = (r1, r2)) := by
        show _ → _ → _
        intro h hq0
        subst hq0
        have h1 := HSP.out
        rw [hdr] at h1
        unfold spotF at h1
        rw [if_neg (by rw [h]; decide)] at h1
        exact h1
      have HD1 : Hid (∀ q', e.d = false → q = q' + 1 → spotF (L.drop (k + 1)) q' (k + 1) (k : Int) = (r1, r2)) := by
        show ∀ q', _
        intro q' h hq0
        subst hq0
        have h1 := HSP.out
        rw [hdr] at h1
        unfold spotF at h1
        rw [if_neg (by rw [h]; decide)] at h1
        exact h1
      clear he h4' hk5 hdr
      go_upto_region 5 with fail
      clear c0 c1 c2 c3
      simp only [elemO] at HE5 HK5
      generalize wr.alloc (.cells #[.int .i64 e.t, .int .i64 e.si, .int .i64 e.r, .bool e.d] 71) = w5 at *
      generalize wr.heap.size = qb at *
      obtain ⟨x0, x1, x2, x3⟩ := HE5.out.cs
      obtain ⟨et, es, er, ed⟩ := e
      simp only at x0 x1 x2 x3
      cases ed with
      | true =>
        have HX := Lib.hid (HDR.out rfl)
        go_wp2_with fail
        go_roundw
        case rel => exact ⟨k + 1, q, a, by omega, by go_num, rfl, rfl, hq, HX.out, HK5.out⟩
        case measure => simp [intOf] <;> omega
      | false =>
        cases q with
        | zero =>
          have hx := HD0.out rfl rfl
          injection hx with hx1 hx2
          subst hx1 hx2
          go_wp2_with fail
          go_ret2
          exact ⟨rfl, HK5.out⟩
        | succ q' =>
          have HX := Lib.hid (HD1.out q' rfl rfl)
          have b3 : (((q' + 1 : Nat) : Int) == 0) = false := by rw [beq_eq_false_iff_ne]; omega
          have b4 : ((q' : Int) + 1 == 0) = false := by rw [beq_eq_false_iff_ne]; omega
          have ws : IntKind.i64.wrap ((q' : Int) + 1 - 1) = (q' : Int) := by rw [show (q' : Int) + 1 - 1 = (q' : Int) by omega]; exact IntWalk.i64_in _ ⟨by omega, by omega⟩
          go_wp2_with fail
          go_roundw
          case rel => exact ⟨k + 1, q', k, by omega, by go_num, by go_num, rfl, by omega, HX.out, HK5.out⟩
          case measure => simp [intOf] <;> omega
    · obtain rfl : k = n := by omega
      have b1 : decide (k < k) = false := decide_eq_false (by omega)
      have b2 : decide ((k : Int) < (k : Int)) = false := decide_eq_false (by omega)
      have hx : (a, k) = (r1, r2) := by
        have h1 := HSP.out
        rw [List.drop_eq_nil_of_le (by rw [HN.out]; exact Nat.le_refl _)] at h1
        exact h1
      injection hx with hx1 hx2
      subst hx1 hx2
      go_wp2_with fail
      go_ret2
      exact ⟨rfl, HK.out⟩
/-- A Boolean that tells whether something is so. -/
def BIff (P : Prop) (e : Ending) : Prop := ∃ R : Bool, e = .returned (.bool R) ∧ (R = true ↔ P)
/-- How many elements a site has. -/
def mine (L : List ElemS) (st : Int) : Nat := (L.filter fun e => decide (e.si = st)).length
theorem mine_take {L : List ElemS} {st : Int} {k : Nat} {e : ElemS} (h : L[k]? = some e) : mine (L.take (k + 1)) st = mine (L.take k) st + (if e.si = st then 1 else 0) := by
  unfold mine
  rw [take_snoc h, List.filter_append, List.length_append]
  by_cases hs : e.si = st <;> simp [hs]
theorem mine_le (L : List ElemS) (st : Int) : mine L st ≤ L.length := List.length_filter_le _ _
/-- Is there room for so many deletions and insertions? -/
structure Room (p : SiteP) (del ins : Nat) : Prop where
  mn : ins + mine p.L p.st ≤ 200
  doc : p.L.length + ins ≤ 2000
  ck : p.ck + (del + ins : Nat) ≤ 10000
  seen : p.seen.getD (p.st - 1).toNat 0 + (del + ins : Nat) ≤ 2000
  log : p.ll.length + (del + ins) ≤ 8000
set_option maxRecDepth 100000 in
set_option maxHeartbeats 8000000 in
theorem hasroom_any (x : SiteS) (del ins : Nat) (w : World) (hx : SiteOk w x) (hok : SOk x.P) (hd : del ≤ 100000) (hi : ins ≤ 100000) :
    Calls Tryd.prog 48 #[x.V, .int .i64 (del : Int), .int .i64 (ins : Int)] w fun e w' => BIff (Room x.P del ins) e ∧ Kept (fun _ => False) w w' := by
  have hk0 : Kept (fun _ => False) w (w.alloc x.O) := (Kept.refl _ w).alloc _
  have HG : Hid ((w.alloc x.O).heap[w.heap.size]? = some x.O) := heap_alloc_new w _
  have HX := Lib.hid (hx.kept hk0)
  have HK0 := Lib.hid hk0
  obtain ⟨h1, h2⟩ := hok.st
  obtain ⟨h3, h4⟩ := hok.ck
  obtain ⟨hv4, hvv⟩ := hok.seen
  have hL := hok.els.1
  have hlg := hok.ll.1
  obtain ⟨RT, HRT⟩ : ∃ RT : Bool → Prop, ∀ B, RT B ↔ (B = true ↔ Room x.P del ins) := ⟨_, fun B => Iff.rfl⟩
  have HRX : Hid (∀ B, (B = true ↔ Room x.P del ins) → RT B) := fun B h => (HRT B).2 h
  have HRF : Hid (∀ B, RT B → (B = true ↔ Room x.P del ins)) := fun B h => (HRT B).1 h
  clear hx hk0 hok HRT
  obtain ⟨st, ck, dv, L, sA, sn, sc, seen, wA, wn, wc, wl, lA, ln, lc, ll⟩ := x
  simp only [SiteS.V, SiteS.O, SiteS.cs, SiteS.P] at *
  suffices HGOAL : Calls Tryd.prog 48 #[.agg #[.int .i64 st, .int .i64 ck, dv, .slice sA sn sc, .slice wA wn wc, .slice lA ln lc], .int .i64 (del : Int), .int .i64 (ins : Int)] w fun e w' => (∃ R : Bool, e = .returned (.bool R) ∧ RT R) ∧ Kept (fun _ => False) w w' by
    exact HGOAL.mono fun e w' ⟨⟨R, he, hr⟩, hk⟩ => ⟨⟨R, he, HRF.out R hr⟩, hk⟩
  clear HRF
  obtain ⟨A, c, hdv, hA, hnc, hAN⟩ := HX.out.doc.open'
  simp only at hdv
  subst hdv
  obtain ⟨n, hN⟩ : ∃ n, L.length = n := ⟨_, rfl⟩
  simp only at hA
  rw [hN] at hA hL
  have hlg2 : ln ≤ 8000 := by
    have h := HX.out.log.1
    simp only at h
    rw [List.length_map] at hlg
    omega
  have hlg3 : Hid (ll.length = ln) := HX.out.log.1
  have hsn : sn = 4 := by
    have h := HX.out.seen.1
    simp only at h
    omega
  subst hsn
  obtain ⟨k0, hk0⟩ : ∃ k0 : Nat, (st - 1).toNat = k0 := ⟨_, rfl⟩
  have hks : st - 1 = (k0 : Int) := by omega
  have hk4 : k0 < 4 := by omega
  obtain ⟨sa, y, hsA, hy, _⟩ := HX.out.seen.cell (j := k0) hk4
  simp only at hsA hy
  subst hsA
  have hy2 := hvv y (List.mem_of_getElem? hy)
  have HS : Hid (∀ W, Kept (fun _ => False) (w.alloc (.cells #[.int .i64 st, .int .i64 ck, .slice A n c, .slice (some sa) 4 sc, .slice wA wn wc, .slice lA ln lc] 46)) W → W.cell? (sa.add k0) = some (.int .i64 y)) := by
    show ∀ W, _
    intro W hk
    rw [← hN] at hk
    obtain ⟨ad, z, e1, e2, e3⟩ := ((HX.out.kept hk).seen).cell (j := k0) hk4
    simp only at e1 e2 e3
    injection e1 with e1
    subst e1
    rw [hy] at e2
    injection e2 with e2
    subst e2
    exact e3
  obtain ⟨m, hm⟩ : ∃ m, ins + mine L st = m := ⟨_, rfl⟩
  have hml := mine_le L st
  have HM := Lib.hid hm
  have HN := Lib.hid hN
  have HA := Lib.hid hA
  have HRM : Hid (∀ B, (B = true ↔ (m ≤ 200 ∧ n + ins ≤ 2000 ∧ ck + ((del + ins : Nat) : Int) ≤ 10000 ∧ y + ((del + ins : Nat) : Int) ≤ 2000 ∧ ln + (del + ins) ≤ 8000)) → RT B) := by
    show ∀ B, _
    intro B hB
    refine HRX.out B (hB.trans ?_)
    have hgd : seen.getD (st - 1).toNat 0 = y := by rw [hk0, List.getD_eq_getElem?_getD, hy]; rfl
    constructor
    · rintro ⟨q1, q2, q3, q4, q5⟩
      exact ⟨by simp only; omega, by simp only; omega, q3, by simp only; rw [hgd]; exact q4, by simp only [List.length_map]; have := hlg3.out; omega⟩
    · rintro ⟨q1, q2, q3, q4, q5⟩
      simp only [List.length_map] at q1 q2 q3 q4 q5
      rw [hgd] at q4
      exact ⟨by omega, by omega, q3, q4, by have := hlg3.out; omega⟩
  simp only [hN] at HG HX HK0 ⊢
  clear HRX hvv hv4 hA hN hy hlg hm
  go_enter Tryd.func48, Tryd.ntmps48
  go_upto_region 2 with fail
  generalize w.alloc (.cells #[.int .i64 st, .int .i64 ck, .slice A n c, .slice (some sa) 4 sc, .slice wA wn wc, .slice lA ln lc] 46) = w1 at *
  generalize w.heap.size = g at *
  obtain ⟨p0, p1, p2, p3, p4, p5⟩ := site_cells (x := ⟨st, ck, .slice A n c, L, some sa, 4, sc, seen, wA, wn, wc, wl, lA, ln, lc, ll⟩) HG.out
  simp only at p0 p1 p2 p3 p4 p5
  go_wp2_with fail
  clear p0 p1 p2 p3 p4 p5
  have hbm : m ≤ 102000 := by have := HM.out; have := HN.out; omega
  clear hml
  go_loopw [7, 15] (fun u v wr => ∃ (k q : Nat), k ≤ n ∧ v = .int .i64 k ∧ u = .int .i64 q ∧ q ≤ 102000 ∧ q = ins + mine (L.take k) st ∧ Kept (fun _ => False) w1 wr) (fun _ v _ => n - (intOf v).toNat)
  case atStart => exact ⟨0, ins, Nat.zero_le _, rfl, rfl, by omega, by simp [mine], Kept.refl _ _⟩
  case round =>
    obtain ⟨k, q, hk, rfl, rfl, hqb, hq, hkept⟩ := hrel
    have HK1 := Lib.hid hkept
    have HQ := Lib.hid hq
    clear hkept hq
    have HG2 := Lib.hid ((HK1.out.block g (heap_lt HG.out) id).trans HG.out)
    by_cases hlt : k < n
    · obtain ⟨ad, e, rfl, he, h4'⟩ := (HA.out.kept HK1.out (fun _ _ => id)).at_ hlt
      have c0 := h4'.c0
      have c1 := h4'.c1
      have c2 := h4'.c2
      have c3 := h4'.c3
      have b1 : decide (k < n) = true := decide_eq_true hlt
      have b2 : decide ((k : Int) < (n : Int)) = true := decide_eq_true (by omega)
      have t1 : (0 : Int) ≤ (k : Int) := by omega
      have t2 : (k : Int) < (n : Int) := by omega
      have hk5 : Kept (fun _ => False) wr (wr.alloc (elemO e)) := (Kept.refl _ wr).alloc _
      have HE5 : Hid (El4 (wr.alloc (elemO e)) ⟨wr.heap.size, 0, none⟩ e) := el4_new
      have HK5 := Lib.hid (HK1.out.trans hk5)
      have HG5 := Lib.hid ((hk5.block g (heap_lt HG2.out) id).trans HG2.out)
      have HQ5 : Hid (e.si = st → q + 1 = ins + mine (L.take (k + 1)) st) := by
        show _ → _
        intro h
        rw [mine_take he, if_pos h, HQ.out]; omega
      have HQ6 : Hid (¬ e.si = st → q = ins + mine (L.take (k + 1)) st) := by
        show _ → _
        intro h
        rw [mine_take he, if_neg h, HQ.out]; omega
      have HQB : Hid (q + 1 ≤ 102000) := by
        show q + 1 ≤ 102000
        have h1 := mine_le (L.take k) st
        rw [List.length_take] at h1
        have h2 := HQ.out
        have h3 := HN.out
        omega
      clear he h4' hk5
      go_upto_region 5 with fail
      clear c0 c1 c2 c3
      simp only [elemO] at HE5 HK5 HG5
      generalize wr.alloc (.cells #[.int .i64 e.t, .int .i64 e.si, .int .i64 e.r, .bool e.d] 71) = w5 at *
      generalize wr.heap.size = qb at *
      obtain ⟨x0, x1, x2, x3⟩ := HE5.out.cs
      obtain ⟨p0, p1, p2, p3, p4, p5⟩ := site_cells (x := ⟨st, ck, .slice (some ad) n c, L, some sa, 4, sc, seen, wA, wn, wc, wl, lA, ln, lc, ll⟩) HG5.out
      simp only at p0 p1 p2 p3 p4 p5
      by_cases hs : e.si = st
      · have b3 : (e.si == st) = true := by rw [beq_iff_eq]; exact hs
        have HX6 := Lib.hid (HQ5.out hs)
        have wq : IntKind.i64.wrap ((q : Int) + 1) = (q : Int) + 1 := IntWalk.i64_in _ ⟨by omega, by omega⟩
        clear hs
        go_wp2_with fail
        go_roundw
        case rel => exact ⟨k + 1, q + 1, by omega, by go_num, by go_num, HQB.out, HX6.out, HK5.out⟩
        case measure => simp [intOf] <;> omega
      · have b3 : (e.si == st) = false := by rw [beq_eq_false_iff_ne]; exact hs
        have HX6 := Lib.hid (HQ6.out hs)
        clear hs
        go_wp2_with fail
        go_roundw
        case rel => exact ⟨k + 1, q, by omega, by go_num, rfl, hqb, HX6.out, HK5.out⟩
        case measure => simp [intOf] <;> omega
    · obtain rfl : k = n := by omega
      have b1 : decide (k < k) = false := decide_eq_false (by omega)
      have b2 : decide ((k : Int) < (k : Int)) = false := decide_eq_false (by omega)
      obtain rfl : q = m := by
        have h1 := HQ.out
        rw [List.take_of_length_le (by rw [HN.out]; exact Nat.le_refl _)] at h1
        rw [h1]; exact HM.out
      have HK := Lib.hid (HK0.out.trans HK1.out)
      have f0 := HS.out wr HK1.out
      obtain ⟨p0, p1, p2, p3, p4, p5⟩ := site_cells (x := ⟨st, ck, .slice A k c, L, some sa, 4, sc, seen, wA, wn, wc, wl, lA, ln, lc, ll⟩) HG2.out
      simp only at p0 p1 p2 p3 p4 p5
      obtain ⟨N, hNN⟩ : ∃ N, del + ins = N := ⟨_, rfl⟩
      have w1_ : IntKind.i64.wrap ((del : Int) + (ins : Int)) = (N : Int) := by rw [IntWalk.i64_in _ ⟨by omega, by omega⟩]; omega
      obtain ⟨Q, hQ⟩ : ∃ Q, k + ins = Q := ⟨_, rfl⟩
      have w2_ : IntKind.i64.wrap ((k : Int) + (ins : Int)) = (Q : Int) := by rw [IntWalk.i64_in _ ⟨by omega, by omega⟩]; omega
      obtain ⟨X3, hX3⟩ : ∃ X3, ck + (N : Int) = X3 := ⟨_, rfl⟩
      have w3_ : IntKind.i64.wrap (ck + (N : Int)) = X3 := by rw [IntWalk.i64_in _ ⟨by omega, by omega⟩]; exact hX3
      obtain ⟨X4, hX4⟩ : ∃ X4, y + (N : Int) = X4 := ⟨_, rfl⟩
      have w4_ : IntKind.i64.wrap (y + (N : Int)) = X4 := by rw [IntWalk.i64_in _ ⟨by have := hy2.1; omega, by omega⟩]; exact hX4
      obtain ⟨X5, hX5⟩ : ∃ X5, ln + N = X5 := ⟨_, rfl⟩
      have w5_ : IntKind.i64.wrap ((ln : Int) + (N : Int)) = (X5 : Int) := by rw [IntWalk.i64_in _ ⟨by omega, by omega⟩]; omega
      have w6_ : IntKind.i64.wrap (st - 1) = (k0 : Int) := by rw [hks]; exact IntWalk.i64_in _ ⟨by omega, by omega⟩
      have HRN : Hid (∀ B, (B = true ↔ (q ≤ 200 ∧ Q ≤ 2000 ∧ X3 ≤ 10000 ∧ X4 ≤ 2000 ∧ X5 ≤ 8000)) → RT B) := by
        show ∀ B, _
        intro B hB
        refine HRM.out B (hB.trans ?_)
        rw [hNN, hX3, hX4, hX5, hQ]
      have HRNF : Hid (¬ (q ≤ 200 ∧ Q ≤ 2000 ∧ X3 ≤ 10000 ∧ X4 ≤ 2000 ∧ X5 ≤ 8000) → RT false) := fun h => HRN.out false ⟨fun h => absurd h (by decide), fun hh => absurd hh h⟩
      have t1 : (0 : Int) ≤ (k0 : Int) := by omega
      have t2 : (k0 : Int) < 4 := by omega
      clear hNN hQ hX3 hX4 hX5 hks h1 h2 h3 h4 hL hd hi hlg2 hk0 hk4 hqb hbm hy2 hk
      by_cases g1 : q ≤ 200
      · have d1 : decide (q ≤ 200) = true := decide_eq_true g1
        have d1' : decide ((q : Int) ≤ 200) = true := decide_eq_true (by omega)
        by_cases g2 : Q ≤ 2000
        · have d2 : decide (Q ≤ 2000) = true := decide_eq_true g2
          have d2' : decide ((Q : Int) ≤ 2000) = true := decide_eq_true (by omega)
          by_cases g3 : X3 ≤ 10000
          · have d3 : decide (X3 ≤ 10000) = true := decide_eq_true g3
            by_cases g4 : X4 ≤ 2000
            · have d4 : decide (X4 ≤ 2000) = true := decide_eq_true g4
              by_cases g5 : X5 ≤ 8000
              · have d5 : decide (X5 ≤ 8000) = true := decide_eq_true g5
                have d5' : decide ((X5 : Int) ≤ 8000) = true := decide_eq_true (by omega)
                have hr := Lib.hid (HRN.out true ⟨fun _ => ⟨g1, g2, g3, g4, g5⟩, fun _ => rfl⟩)
                clear g1 g2 g3 g4 g5
                go_wp2_with fail
                go_ret
                exact ⟨⟨_, rfl, hr.out⟩, HK.out⟩
              · have d5 : decide (X5 ≤ 8000) = false := decide_eq_false g5
                have d5' : decide ((X5 : Int) ≤ 8000) = false := decide_eq_false (by omega)
                have hr := Lib.hid (HRNF.out (fun h => g5 h.2.2.2.2))
                clear g1 g2 g3 g4 g5
                go_wp2_with fail
                go_ret
                exact ⟨⟨_, rfl, hr.out⟩, HK.out⟩
            · have d4 : decide (X4 ≤ 2000) = false := decide_eq_false g4
              have hr := Lib.hid (HRNF.out (fun h => g4 h.2.2.2.1))
              clear g1 g2 g3 g4
              go_wp2_with fail
              go_ret
              exact ⟨⟨_, rfl, hr.out⟩, HK.out⟩
          · have d3 : decide (X3 ≤ 10000) = false := decide_eq_false g3
            have hr := Lib.hid (HRNF.out (fun h => g3 h.2.2.1))
            clear g1 g2 g3
            go_wp2_with fail
            go_ret
            exact ⟨⟨_, rfl, hr.out⟩, HK.out⟩
        · have d2 : decide (Q ≤ 2000) = false := decide_eq_false g2
          have d2' : decide ((Q : Int) ≤ 2000) = false := decide_eq_false (by omega)
          have hr := Lib.hid (HRNF.out (fun h => g2 h.2.1))
          clear g1 g2
          go_wp2_with fail
          go_ret
          exact ⟨⟨_, rfl, hr.out⟩, HK.out⟩
      · have d1 : decide (q ≤ 200) = false := decide_eq_false g1
        have d1' : decide ((q : Int) ≤ 200) = false := decide_eq_false (by omega)
        have hr := Lib.hid (HRNF.out (fun h => g1 h.1))
        clear g1
        go_wp2_with fail
        go_ret
        exact ⟨⟨_, rfl, hr.out⟩, HK.out⟩
set_option maxRecDepth 100000 in
set_option maxHeartbeats 4000000 in
/-- Whether a patch may be of the text of elements. -/
theorem maypatch_any (L : List ElemS) (v : Value) (a d : Int) (PX : ByteArray) (w : World) (h : Se w v L) (hok : elsOk L) (hT : Tabs w) (hP : PX.size ≤ 100000) (ha : I64 a) (hd : I64 d) :
    Calls Tryd.prog 47 #[v, patV a d PX] w fun e w' => BIff (POk (runesBytes (txL L)) PX a d) e ∧ Kept (fun _ => False) w w' := by
  have hka : Kept (fun _ => False) w (w.alloc (patO a d PX)) := (Kept.refl _ w).alloc _
  have HG : Hid ((w.alloc (patO a d PX)).heap[w.heap.size]? = some (patO a d PX)) := heap_alloc_new w _
  have cT := otext_any L v (w.alloc (patO a d PX)) (h.kept hka) hok (hT.kept hka id id)
  have hsz : (runesBytes (txL L)).size ≤ 8000 := by
    rw [txt_size]
    have h1 := bytes_le (txL L)
    have h2 := txL_len L
    have h3 := hok.1
    omega
  have cA := fun W (hW : Tabs W) => papply_code (runesBytes (txL L)) PX a d W hW (by omega) hP ha hd
  have HA := Lib.hid cA
  have HKA := Lib.hid hka
  have HT0 := Lib.hid (hT.kept hka id id)
  obtain ⟨A, c, rfl, _⟩ := h.open'
  clear h hok hT hka hP ha hd cA
  generalize runesBytes (txL L) = s at *
  obtain ⟨g, hg⟩ : ∃ g, w.heap.size = g := ⟨_, rfl⟩
  go_enter Tryd.func47, Tryd.ntmps47
  go_upto_region 1 with fail
  simp only [hg] at HG ⊢
  generalize w.alloc (patO a d PX) = wa at *
  go_upto_region 4 with (go_at_call 37; refine cT.mono ?_; clear cT; rintro e w2 ⟨rfl, hk2⟩; have HK2 := Lib.hid (HKA.out.trans hk2); have HT2 := Lib.hid (HT0.out.kept hk2 id id); have HG2 := Lib.hid ((hk2.block g (heap_lt HG.out) id).trans HG.out); clear hk2)
  obtain ⟨q0, q1, q2⟩ := pat_cells HG2.out
  have cA := HA.out w2 HT2.out
  go_upto_region 5 with (go_at_call 76; refine cA.mono ?_; clear cA; rintro e w3 ⟨⟨r, cc, rfl, hcc⟩, hk3⟩; have HK3 := Lib.hid (HK2.out.trans hk3); have HCC := Lib.hid hcc; clear hk3 hcc q0 q1 q2)
  by_cases h1 : cc = 1
  · subst h1
    have hn := Lib.hid (HCC.out.1 rfl)
    go_wp2_with fail
    go_ret
    exact ⟨⟨false, rfl, fun h => absurd h (by decide), fun h => absurd h hn.out⟩, HK3.out⟩
  · have b1 : (cc != 1) = true := by simpa using h1
    have hn : Hid (POk s PX a d) := Classical.byContradiction fun h => h1 (HCC.out.2 h)
    clear h1
    go_wp2_with fail
    go_ret
    exact ⟨⟨true, rfl, fun _ => hn.out, fun _ => rfl⟩, HK3.out⟩
end Go.Proofs.YthkohjijppbliaaDoor
