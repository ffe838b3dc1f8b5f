/-
  HISTORY: the way from a node to another.
  NODES: one taken away, in its own row.
-/
import Derived.Test.YthbfmdnibijapaaDoorHz08
import Derived.Test.YthbfmdnibijapaaDoorHz03
import Derived.Lib.SliceRun
import Derived.Shelf.RegionOpenPlain
import Derived.Deep.RegionLaw
import Derived.Lib.Walk
set_option linter.unusedVariables false
namespace Go.Proofs.YthbfmdnibijapaaDoor
open Go Go.RowKit

/-- The way between two nodes: what is gone up, what is gone down (from its end). -/
inductive Way (G : Int → Option (Int × PatS × PatS)) : Int → Int → List PatS → List PatS → Prop
  | done (z : Int) : Way G z z [] []
  | up {f t q : Int} {d u : PatS} {U D : List PatS} (h : t < f) (hg : G f = some (q, d, u)) (hq : 0 ≤ q ∧ q < f) (hr : Way G q t U D) : Way G f t (u :: U) D
  | down {f t q : Int} {d u : PatS} {U D : List PatS} (h : f < t) (hg : G t = some (q, d, u)) (hq : 0 ≤ q ∧ q < t) (hr : Way G f q U D) : Way G f t U (d :: D)
set_option maxRecDepth 100000 in
theorem hrev_one (A : Option Addr) (n c : Nat) (w : World) (hn : n ≤ 1) :
    Calls Tryd.prog 55 #[.slice A n c] w fun e w' => e = .returned (.tuple #[]) ∧ Kept (fun _ => False) w w' := by
  have wn : IntKind.i64.wrap ((n : Int) - 1) = (n : Int) - 1 := IntWalk.i64_in _ ⟨by omega, by omega⟩
  have b1 : decide ((0 : Int) < (n : Int) - 1) = false := decide_eq_false (by omega)
  go_enter Tryd.func55, Tryd.ntmps55
  go_wp2_with fail
  go_loopw [2, 3] (fun v u wr => v = .int .i64 0 ∧ u = .int .i64 ((n : Int) - 1) ∧ wr = w) (fun _ _ _ => 0)
  case atStart => exact ⟨rfl, rfl, rfl⟩
  case round =>
    obtain ⟨rfl, rfl, rfl⟩ := hrel
    go_wp2_with fail
    go_end0
    exact ⟨rfl, Kept.refl _ _⟩
/-- What holds of a history's nodes and links on a way. -/
def Good (L : List NodeS) (kv : List (Int × Value)) (G : Int → Option (Int × PatS × PatS)) : Prop := ∀ z q d u, G z = some (q, d, u) → ∃ (i : Nat) (e : NodeS), idx L z = (i : Nat) ∧ L[i]? = some e ∧ e.pa = q ∧ kv.lookup z = some (lnkV d u) ∧ (Lit.int .i64 z).wf = true
/-- Two rows of one's own, apart. -/
structure Two (W : World) (B : Nat) (x y : Value) (U D : List PatS) : Prop where
  u : Op3 W B x U
  d : Op3 W B y D
  ne : ∀ g, x.ownBlock = some g → y.ownBlock ≠ some g
  b : B ≤ W.heap.size
theorem Two.kept {W W' : World} {B : Nat} {x y : Value} {U D : List PatS} (h : Two W B x y U D) (hk : Kept (fun _ => False) W W') : Two W' B x y U D := ⟨h.u.kept hk, h.d.kept hk, h.ne, Nat.le_trans h.b hk.size⟩
theorem Two.swap {W : World} {B : Nat} {x y : Value} {U D : List PatS} (h : Two W B x y U D) : Two W B y x D U := ⟨h.d, h.u, fun g h1 h2 => h.ne g h2 h1, h.b⟩
theorem Two.app {W W' : World} {B : Nat} {x y x' : Value} {U D U' : List PatS} (h : Two W B x y U D) (hx : Op3 W' B x' U') (hg : W.grownBy W' x.ownBlock) (ho : x'.ownBlock = x.ownBlock ∨ x'.ownBlock = some W.heap.size) : Two W' B x' y U' D := by
  have hk : Kept (fun k => x.ownBlock = some k) W W' := ⟨hg.os, hg.tape, hg.output, hg.size, fun k hk hn => hg.block k hk (fun e => hn e.symm)⟩
  refine ⟨hx, ?_, ?_, Nat.le_trans h.b hg.size⟩
  · refine ⟨h.d.1, ?_⟩
    rcases h.d.2 with hn | ⟨g, cap, cur, e, hb, hgg, rest⟩
    · exact .inl hn
    · exact .inr ⟨g, cap, cur, e, hb, (hk.block g (heap_lt hgg) (fun e' => h.ne g e' (by rw [e]; rfl))).trans hgg, rest⟩
  · intro g h1 h2
    rcases ho with e | e
    · exact h.ne g (e ▸ h1) h2
    · rw [e] at h1
      injection h1 with h1
      have := (h.d.lt g h2).2
      omega
theorem grew_kept {w W W' : World} {B : Nat} {x : Value} {U : List PatS} (hk : Kept (fun _ => False) w W) (hB : w.heap.size = B) (hx : Op3 W B x U) (hg : W.grownBy W' x.ownBlock) : Kept (fun _ => False) w W' := Kept.grew hk hg (fun q hq => by rw [hB]; exact (hx.lt q hq).1)
section
variable {most : Int} {ad : Addr} {n c : Nat} {L : List NodeS} {cur : Int} {mb hb : Nat} {s : ByteArray} {k : Int} {kv : List (Int × Value)}
set_option maxRecDepth 100000 in
set_option maxHeartbeats 8000000 in
theorem path_any (G : Int → Option (Int × PatS × PatS)) (f0 t0 : Int) (U0 D0 : List PatS) (w : World) (h : Hq most ad n c L cur mb hb s k kv w) (hn : n ≤ 64) (hG : Good L kv G) (hW : Way G f0 t0 U0 D0) (hU : U0.length ≤ 1000) (hD : D0.length ≤ 1) (hf : 0 ≤ f0) (ht : 0 ≤ t0) :
    Calls Tryd.prog 39 #[.pointer (some ⟨hb, 0, none⟩), .int .i64 f0, .int .i64 t0] w fun r w' => (∃ v, r = .returned v ∧ Op3 w' w.heap.size v (U0 ++ D0)) ∧ Kept (fun _ => False) w w' := by
  have HH := Lib.hid h
  have HG := Lib.hid hG
  have HWY := Lib.hid hW
  obtain ⟨B, hB⟩ : ∃ B, w.heap.size = B := ⟨_, rfl⟩
  rw [hB]
  have HB := Lib.hid hB
  clear h hG hW hB
  go_enter Tryd.func39, Tryd.ntmps39
  go_wp2_with fail
  go_loopw [1, 2, 7, 8] (fun a b x y wr => ∃ (f t : Int) (U1 D1 U D : List PatS), a = .int .i64 f ∧ b = .int .i64 t ∧ 0 ≤ f ∧ 0 ≤ t ∧ Two wr B x y U1 D1 ∧ Way G f t U D ∧ U1 ++ U = U0 ∧ D1 ++ D = D0 ∧ Kept (fun _ => False) w wr) (fun a b _ _ _ => (intOf a).toNat + (intOf b).toNat)
  case atStart => exact ⟨f0, t0, [], [], U0, D0, rfl, rfl, hf, ht, ⟨op3_nil _ _, op3_nil _ _, (fun g h => by cases h), by rw [HB.out]; exact Nat.le_refl _⟩, HWY.out, rfl, rfl, Kept.refl _ _⟩
  case round =>
    obtain ⟨f, t, U1, D1, U, D, rfl, rfl, hf', ht', h2, hw, hu, hd, hkept⟩ := hrel
    have HK := Lib.hid hkept
    have H2 := Lib.hid h2
    have HU := Lib.hid hu
    have HD := Lib.hid hd
    have hul : U1.length + U.length ≤ 1000 := by rw [← List.length_append, hu]; exact hU
    have hdl : D1.length + D.length ≤ 1 := by rw [← List.length_append, hd]; exact hD
    have HQ := Lib.hid (HH.out.kept hkept)
    obtain ⟨_, _, _, f3, _, _⟩ := hist_facts HQ.out.box
    clear hkept h2 hu hd
    cases hw with
    | done =>
      have b1 : (f != f) = false := by simp
      have b2 : (f == f) = true := by simp
      obtain ⟨AD, cD, hyD, hPD, hcD, hnD, hbD⟩ := H2.out.d.ps
      subst hyD
      have HPD := Lib.hid hPD
      have HND := Lib.hid hnD
      have hd1 : D1.length ≤ 1 := by omega
      have cR := fun W => hrev_one AD D1.length cD W hd1
      clear hPD hnD hbD
      go_wp2_with (first
        | (go_at_call 55; refine (cR _).mono ?_; rintro e w2 ⟨rfl, hk2⟩; have HK2 := Lib.hid (HK.out.trans hk2); have H22 := Lib.hid (H2.out.kept hk2); have HP2 := Lib.hid (HPD.out.kept hk2 (fun _ _ => id)); clear hk2)
        | (at_builtin; refine wpList_app_pats rfl (.tmp 43) (.tmp 44) rfl B _ U1 rfl H22.out.u _ _ _ D1 rfl HP2.out HND.out (by omega) H22.out.b ?_; intro v3 w3 hv3 hg3 ho3; have HO3 := Lib.hid hv3; have HK3 := Lib.hid (grew_kept HK2.out HB.out H22.out.u hg3); clear hv3 hg3 ho3))
      go_ret
      refine ⟨⟨_, rfl, ?_⟩, HK3.out⟩
      have h1 := HU.out
      have h2 := HD.out
      rw [List.append_nil] at h1 h2
      subst h1
      subst h2
      exact HO3.out
    | @up _ _ q d u U' _ hlt hg hq hr =>
      obtain ⟨i, e, hi, he, hpa, hlk, hwf⟩ := HG.out _ _ _ _ hg
      have b1 : (f != t) = true := by simp; omega
      have b2 : (f == t) = false := by rw [beq_eq_false_iff_ne]; omega
      have b3 : decide (t < f) = true := decide_eq_true hlt
      have hget := fun W (hM : MapI W mb kv) => MapI.get Tryd.underlying64 Tryd.underlying3 hM hwf hlk
      have hg0 := hget _ HQ.out.mp
      have hup := fun W => lnk_up d u W
      have cP := fun W (h : Hq most ad n c L cur mb hb s k kv W) => parent_any f i e W h hn hi he
      rw [hpa] at cP
      have HCP := Lib.hid cP
      have HR := Lib.hid hr
      have H2A := Lib.hid (H2.out.kept ((Kept.refl (fun _ => False) wr).alloc (.cells #[.int .i64 u.pat, .int .i64 u.del, .string u.ins] 79)))
      have HPB := Lib.hid (ps_built wr u)
      have HKA := Lib.hid (HK.out.alloc (.cells #[.int .i64 u.pat, .int .i64 u.del, .string u.ins] 79))
      have hul2 : U1.length + 1 ≤ 1000 := by simp at hul; omega
      obtain ⟨u0, u1, u2⟩ := u
      simp only at H2A HPB HKA
      clear hg hi he hpa hlk hget cP hr
      go_wp2_with (first
        | (at_builtin; refine wpList_app_pats rfl (.tmp 15) (.tmp 23) rfl B _ U1 rfl H2A.out.u _ 1 1 [⟨u0, u1, u2⟩] rfl HPB.out (fun h => by cases h) (by omega) H2A.out.b ?_; intro v3 w3 hv3 hg3 ho3; have H23 := Lib.hid (H2A.out.app hv3 hg3 ho3); have HK3 := Lib.hid (grew_kept HKA.out HB.out H2A.out.u hg3); have HQ3 := Lib.hid (HH.out.kept HK3.out); clear hv3 hg3 ho3)
        | (go_at_call 54; refine (HCP.out _ HQ3.out).mono ?_; rintro e w4 ⟨rfl, hk4⟩; have HK4 := Lib.hid (HK3.out.trans hk4); have H24 := Lib.hid (H23.out.kept hk4); clear hk4))
      go_roundw
      case rel => exact ⟨q, t, U1 ++ [⟨u0, u1, u2⟩], D1, U', D, rfl, rfl, hq.1, ht', H24.out, HR.out, by rw [List.append_assoc]; exact HU.out, HD.out, HK4.out⟩
      case measure => simp [intOf] <;> omega
    | @down _ _ q d u _ D' hlt hg hq hr =>
      obtain ⟨i, e, hi, he, hpa, hlk, hwf⟩ := HG.out _ _ _ _ hg
      have b1 : (f != t) = true := by simp; omega
      have b2 : (f == t) = false := by rw [beq_eq_false_iff_ne]; omega
      have b3 : decide (t < f) = false := decide_eq_false (by omega)
      have hget := fun W (hM : MapI W mb kv) => MapI.get Tryd.underlying64 Tryd.underlying3 hM hwf hlk
      have hg0 := hget _ HQ.out.mp
      have hup := fun W => lnk_down d u W
      have cP := fun W (h : Hq most ad n c L cur mb hb s k kv W) => parent_any t i e W h hn hi he
      rw [hpa] at cP
      have HCP := Lib.hid cP
      have HR := Lib.hid hr
      have H2A := Lib.hid (H2.out.kept ((Kept.refl (fun _ => False) wr).alloc (.cells #[.int .i64 d.pat, .int .i64 d.del, .string d.ins] 79))).swap
      have HPB := Lib.hid (ps_built wr d)
      have HKA := Lib.hid (HK.out.alloc (.cells #[.int .i64 d.pat, .int .i64 d.del, .string d.ins] 79))
      have hdl2 : D1.length + 1 ≤ 1000 := by simp at hdl; omega
      obtain ⟨u0, u1, u2⟩ := d
      simp only at H2A HPB HKA
      clear hg hi he hpa hlk hget cP hr
      go_wp2_with (first
        | (at_builtin; refine wpList_app_pats rfl (.tmp 28) (.tmp 36) rfl B _ D1 rfl H2A.out.u _ 1 1 [⟨u0, u1, u2⟩] rfl HPB.out (fun h => by cases h) (by omega) H2A.out.b ?_; intro v3 w3 hv3 hg3 ho3; have H23 := Lib.hid (H2A.out.app hv3 hg3 ho3).swap; have HK3 := Lib.hid (grew_kept HKA.out HB.out H2A.out.u hg3); have HQ3 := Lib.hid (HH.out.kept HK3.out); clear hv3 hg3 ho3)
        | (go_at_call 54; refine (HCP.out _ HQ3.out).mono ?_; rintro e w4 ⟨rfl, hk4⟩; have HK4 := Lib.hid (HK3.out.trans hk4); have H24 := Lib.hid (H23.out.kept hk4); clear hk4))
      go_roundw
      case rel => exact ⟨f, q, U1, D1 ++ [⟨u0, u1, u2⟩], U, D', rfl, rfl, hf', hq.1, H24.out, HR.out, HU.out, by rw [List.append_assoc]; exact HD.out, HK4.out⟩
      case measure => simp [intOf] <;> omega
end
end Go.Proofs.YthbfmdnibijapaaDoor
namespace Go.Proofs.YthbfmdnibijapaaDoor
open Go Go.RowKit

/-- Nodes in a block of one's own. -/
structure Og (w : World) (g n cap : Nat) (L : List NodeS) : Prop where
  len : L.length = n
  le : n ≤ cap
  mx : cap ≤ maxLen
  row : ∃ cs, w.heap[g]? = some (.cells cs 46 (0, 0)) ∧ cs.size = cap * 4 ∧ cs.toList.take (n * 4) = flatN L
theorem Og.kept {S : Nat → Prop} {w w' : World} {g n cap : Nat} {L : List NodeS} (h : Og w g n cap L) (hk : Kept S w w') (hs : ¬ S g) : Og w' g n cap L := by
  obtain ⟨cs, h1, h2, h3⟩ := h.row
  exact ⟨h.len, h.le, h.mx, cs, (hk.block g (heap_lt h1) hs).trans h1, h2, h3⟩
theorem Og.lt {w : World} {g n cap : Nat} {L : List NodeS} (h : Og w g n cap L) : g < w.heap.size := by
  obtain ⟨cs, h1, _⟩ := h.row
  exact heap_lt h1
theorem Og.on {w : World} {g n cap B : Nat} {L : List NodeS} (h : Og w g n cap L) (hb : B ≤ g) : On w B (.slice (some ⟨g, 0, none⟩) n cap) L := by
  obtain ⟨cs, h1, h2, h3⟩ := h.row
  obtain rfl := h.len
  exact ⟨flatN_len L, .inr ⟨g, cap, cs, rfl, hb, h1, h.le, h.mx, h2, h3⟩⟩
theorem On.og {w : World} {B : Nat} {v : Value} {L : List NodeS} (h : On w B v L) (hl : 0 < L.length) : ∃ g cap, v = .slice (some ⟨g, 0, none⟩) L.length cap ∧ B ≤ g ∧ Og w g L.length cap L := by
  rcases h.2 with ⟨_, hn⟩ | ⟨g, cap, cs, e, hb, h1, h2, h3, h4, h5⟩
  · omega
  · exact ⟨g, cap, e, hb, ⟨rfl, h2, h3, cs, h1, h4, h5⟩⟩
theorem Og.cell {w : World} {g n cap : Nat} {L : List NodeS} (h : Og w g n cap L) {j : Nat} {u : Value} (hj : (flatN L)[j]? = some u) : w.cell? ⟨g, j, none⟩ = some u := by
  obtain ⟨cs, h1, h2, h3⟩ := h.row
  rw [cell_of_row _ _ _ _ _ _ h1]
  rw [← h3, List.getElem?_take] at hj
  split at hj
  · rw [← Array.getElem?_toList]; exact hj
  · cases hj
theorem Og.has {w : World} {g n cap : Nat} {L : List NodeS} (h : Og w g n cap L) {j : Nat} (hj : j < cap * 4) : (w.cell? ⟨g, j, none⟩).isSome = true := by
  obtain ⟨cs, h1, h2, h3⟩ := h.row
  rw [cell_of_row _ _ _ _ _ _ h1, Array.getElem?_eq_getElem (by omega)]
  rfl
theorem Og.free {w : World} {g n cap : Nat} {L : List NodeS} (h : Og w g n cap L) (j : Nat) : w.frozen? ⟨g, j, none⟩ = false := by
  obtain ⟨cs, h1, _⟩ := h.row
  exact frozen_of h1
theorem Og.ng {w : World} {g n cap : Nat} {L : List NodeS} (h : Og w g n cap L) : Ng w (some ⟨g, 0, none⟩) n L := by
  refine ⟨h.len, fun k e he => ⟨_, rfl, ?_⟩⟩
  have g0 := h.cell (flatN_get he (f := 0) rfl)
  have g1 := h.cell (flatN_get he (f := 1) rfl)
  have g2 := h.cell (flatN_get he (f := 2) rfl)
  have g3 := h.cell (flatN_get he (f := 3) rfl)
  have e : (⟨g, 0, none⟩ : Addr).add (k * 4) = ⟨g, k * 4, none⟩ := by rw [addr_add, Nat.zero_add]
  rw [e]
  exact ⟨by simpa using g0, by simpa using g1, by simpa using g2, by simpa using g3⟩
def putL (cs : Array Value) : Nat → List Value → Array Value
  | _, [] => cs
  | o, v :: r => putL (cs.setIfInBounds o v) (o + 1) r
termination_by _ l => l.length
theorem putL_size : ∀ (vs : List Value) (cs : Array Value) (o : Nat), (putL cs o vs).size = cs.size
  | [], cs, o => by unfold putL; rfl
  | v :: r, cs, o => by unfold putL; rw [putL_size r]; simp
theorem putL_out : ∀ (vs : List Value) (cs : Array Value) (o j : Nat), (j < o ∨ o + vs.length ≤ j) → (putL cs o vs)[j]? = cs[j]?
  | [], cs, o, j, _ => by unfold putL; rfl
  | v :: r, cs, o, j, h => by
    unfold putL
    rw [putL_out r _ _ _ (by simp at h; omega), Array.getElem?_setIfInBounds, if_neg (by simp at h; omega)]
theorem putL_in : ∀ (vs : List Value) (cs : Array Value) (o j : Nat), o + vs.length ≤ cs.size → o ≤ j → j < o + vs.length → (putL cs o vs)[j]? = vs[j - o]?
  | [], cs, o, j, _, h1, h2 => by simp at h2; omega
  | v :: r, cs, o, j, hs, h1, h2 => by
    simp at hs h2
    unfold putL
    by_cases hj : j = o
    · subst hj
      rw [putL_out r _ _ _ (by omega), Array.getElem?_setIfInBounds, if_pos rfl, if_pos (by omega), Nat.sub_self]
      rfl
    · rw [putL_in r _ _ _ (by simp; omega) (by omega) (by omega), show j - o = (j - (o + 1)) + 1 by omega]
      rfl
theorem heap_setCells : ∀ (vs : List Value) (o : Nat) (w : World) (g : Nat) (cs : Array Value) (ty : TypeId) (f : Nat × Nat), w.heap[g]? = some (.cells cs ty f) → (w.setCells g o vs).heap[g]? = some (.cells (putL cs o vs) ty f)
  | [], o, w, g, cs, ty, f, h => by unfold putL; exact h
  | v :: r, o, w, g, cs, ty, f, h => by
    unfold putL
    exact heap_setCells r (o + 1) _ g _ ty f (heap_set h v)
theorem Kept.setCells {S : Nat → Prop} {g : Nat} (hg : S g) : ∀ (vs : List Value) (o : Nat) {a b : World}, Kept S a b → Kept S a (b.setCells g o vs)
  | [], _, _, _, h => h
  | v :: r, o, _, _, h => Kept.setCells hg r (o + 1) (h.setCell (p := ⟨g, o, none⟩) hg v)
theorem flatN_del (pre post : List NodeS) (e : NodeS) (cs : Array Value) (cap : Nat) (zs : List Value) (hz : zs.length = 4) (hcs : cs.size = cap * 4) (hcap : pre.length + 1 + post.length ≤ cap) (h : cs.toList.take ((pre.length + 1 + post.length) * 4) = flatN (pre ++ e :: post)) :
    (putL (putL cs (pre.length * 4) (flatN post)) ((pre.length + post.length) * 4) zs).toList.take ((pre.length + post.length) * 4) = flatN (pre ++ post) := by
  apply List.ext_getElem?
  intro j
  rw [List.getElem?_take, flatN_app]
  have hp := flatN_len pre
  have hq := flatN_len post
  split
  · rename_i hj
    rw [Array.getElem?_toList, putL_out _ _ _ _ (.inl (by omega))]
    by_cases h1 : j < pre.length * 4
    · rw [putL_out _ _ _ _ (.inl h1), List.getElem?_append_left (by omega)]
      have h2 : (cs.toList.take ((pre.length + 1 + post.length) * 4))[j]? = (flatN (pre ++ e :: post))[j]? := by rw [h]
      rw [List.getElem?_take, if_pos (by omega), Array.getElem?_toList, flatN_app, List.getElem?_append_left (by omega)] at h2
      exact h2
    · rw [putL_in _ _ _ _ (by omega) (by omega) (by omega), List.getElem?_append_right (by omega), hp]
  · rw [List.getElem?_eq_none (by rw [List.length_append]; omega)]
set_option maxRecDepth 100000 in
theorem run_ncut_l (w : World) (A : Option Addr) (n c lo : Nat) (L : Int) (hL : L = lo) (h1 : lo ≤ n) (h2 : n ≤ c) :
    (Instr.slice 22 (.slice A n c) (some (.int .i64 L)) none none).run Tryd.prog w = .ok (.slice (if c = lo then A else A.map (·.add (lo * 4))) (n - lo) (c - lo)) w := by
  subst hL
  rw [run_slice_l (P := Tryd.prog) w 22 A n c Tryd.underlying22 .i64 _ (by omega) (by omega)]
  have hz : ((sizeOf (Tryd.prog.elem 22)).run Tryd.prog w) = .ok 4 w := by kernel_rfl
  rw [hz]
  simp [Result.andThen, sliced]
set_option maxRecDepth 100000 in
theorem run_ncut_lh (w : World) (A : Option Addr) (n c lo hi : Nat) (L H : Int) (hL : L = lo) (hH : H = hi) (h1 : lo ≤ hi) (h2 : hi ≤ c) :
    (Instr.slice 22 (.slice A n c) (some (.int .i64 L)) (some (.int .i64 H)) none).run Tryd.prog w = .ok (.slice (if c = lo then A else A.map (·.add (lo * 4))) (hi - lo) (c - lo)) w := by
  subst hL hH
  rw [run_slice_lh (P := Tryd.prog) w 22 A n c Tryd.underlying22 .i64 .i64 _ _ (by omega) (by omega) (by omega)]
  have hz : ((sizeOf (Tryd.prog.elem 22)).run Tryd.prog w) = .ok 4 w := by kernel_rfl
  rw [hz]
  simp [Result.andThen, sliced]
/-- clear of one node. -/
theorem run_clear_node (w : World) (ty : TypeId) (b o c : Nat) (hc : ∀ j, j < 4 → (w.cell? ⟨b, o + j, none⟩).isSome = true) (hf : ∀ j, j < 4 → w.frozen? ⟨b, o + j, none⟩ = false) :
    (Builtin.clear_ #[22] ty #[.slice (some ⟨b, o, none⟩) 1 c]).run Tryd.prog w = .ok (.tuple #[]) (w.setCells b o [.int .i64 0, .int .i64 0, .int .i64 0, .string ⟨#[]⟩]) := by
  have hst := run_storeCells_cells (P := Tryd.prog) b o [.int .i64 0, .int .i64 0, .int .i64 0, .string ⟨#[]⟩] 0 w (by simpa using hc) (by simpa using hf) (by intro v hv'; simp only [List.mem_cons, List.not_mem_nil, or_false] at hv'; rcases hv' with rfl | rfl | rfl | rfl <;> rfl)
  simp only [Nat.add_zero] at hst
  have hz : (Builtin.zeroCells (Value.agg #[.int .i64 0, .int .i64 0, .int .i64 0, .string ⟨#[]⟩]).cells 1).toList = [.int .i64 0, .int .i64 0, .int .i64 0, .string ⟨#[]⟩] := by kernel_rfl
  have hv : (zeroValue 46).run Tryd.prog w = .ok (.agg #[.int .i64 0, .int .i64 0, .int .i64 0, .string ⟨#[]⟩]) w := Tryd.zeroValue46 w
  simp [Builtin.clear_, run_underlying Tryd.underlying22, hv, hz, hst]
set_option maxRecDepth 100000 in
set_option maxHeartbeats 4000000 in
theorem ndelete_any (g cap i k : Nat) (pre post : List NodeS) (e : NodeS) (w : World) (hi : pre.length = i) (hk : post.length = k) (hO : Og w g (i + 1 + k) cap (pre ++ e :: post)) (hn : i + 1 + k ≤ 100000) :
    Calls Tryd.prog 70 #[.slice (some ⟨g, 0, none⟩) (i + 1 + k : Nat) cap, .int .i64 i, .int .i64 ((i : Int) + 1)] w fun r w' => r = .returned (.slice (some ⟨g, 0, none⟩) (i + k : Nat) cap) ∧ Og w' g (i + k) cap (pre ++ post) ∧ Kept (fun q => q = g) w w' := by
  obtain ⟨i0, hi0, hz0, hz1, hz2⟩ := info_parts info_node
  have hle := hO.le
  have hmx := hO.mx
  have hlp := flatN_len post
  have hlq := flatN_len pre
  have ⟨AD, hAD, hsrc⟩ : ∃ AD : Addr, (if cap = i + 1 then (some ⟨g, 0, none⟩ : Option Addr) else (some (⟨g, 0, none⟩ : Addr)).map (·.add ((i + 1) * 4))) = some AD ∧ (∀ t u, (flatN post)[t]? = some u → w.drew.cell? (AD.add t) = some u) := by
    by_cases h : cap = i + 1
    · refine ⟨⟨g, 0, none⟩, if_pos h, fun t u hu => ?_⟩
      rw [List.getElem?_eq_none (by omega)] at hu
      cases hu
    · refine ⟨⟨g, (i + 1) * 4, none⟩, by rw [if_neg h, Option.map_some, addr_add, Nat.zero_add], fun t u hu => ?_⟩
      rw [addr_add]
      refine hO.cell (j := (i + 1) * 4 + t) ?_
      rw [show pre ++ e :: post = (pre ++ [e]) ++ post by simp, flatN_app, List.getElem?_append_right (by rw [flatN_len]; simp; omega), flatN_len]
      rw [show (i + 1) * 4 + t - (pre ++ [e]).length * 4 = t by simp; omega]
      exact hu
  have hcH := fun u => run_ncut_h u (some ⟨g, 0, none⟩) (i + 1 + k) cap i (i : Int) rfl (by omega)
  have hcL := fun u => run_ncut_l u (some ⟨g, 0, none⟩) (i + 1 + k) cap (i + 1) ((i : Int) + 1) (by omega) (by omega) hle
  rw [hAD, show i + 1 + k - (i + 1) = k by omega] at hcL
  obtain ⟨W1, hW1⟩ : ∃ W1, W1 = w.drew.setCells g (0 + i * 4) (flatN post) := ⟨_, rfl⟩
  obtain ⟨cs, c1, c2, c3⟩ := hO.row
  have h1 : W1.heap[g]? = some (.cells (putL cs (i * 4) (flatN post)) 46 (0, 0)) := by rw [hW1, Nat.zero_add]; exact heap_setCells _ _ _ _ _ _ _ c1
  have hk1 : Kept (fun q => q = g) w W1 := by rw [hW1]; exact Kept.setCells (S := fun q => q = g) rfl _ _ (Kept.refl (fun q => q = g) w).drew
  have hc2 : ∀ u, (Instr.slice 22 (.slice (some ⟨g, 0, none⟩) (i + k : Nat) cap) (some (.int .i64 ((i + k : Nat) : Int))) (some (.int .i64 ((i + 1 + k : Nat) : Int))) none).run Tryd.prog u = .ok (.slice (some ⟨g, (i + k) * 4, none⟩) 1 (cap - (i + k))) u := fun u => by
    rw [run_ncut_lh u (some ⟨g, 0, none⟩) (i + k) cap (i + k) (i + 1 + k) _ _ rfl rfl (by omega) hle, if_neg (by omega), Option.map_some, addr_add, Nat.zero_add, show i + 1 + k - (i + k) = 1 by omega]
  have hsz1 := putL_size (flatN post) cs (i * 4)
  have hcl : ∀ ty, (Builtin.clear_ #[22] ty #[.slice (some ⟨g, (i + k) * 4, none⟩) 1 (cap - (i + k))]).run Tryd.prog W1 = .ok (.tuple #[]) (W1.setCells g ((i + k) * 4) [.int .i64 0, .int .i64 0, .int .i64 0, .string ⟨#[]⟩]) := fun ty =>
    run_clear_node W1 ty g ((i + k) * 4) _ (fun j hj => by rw [cell_of_row _ _ _ _ _ _ h1, Array.getElem?_eq_getElem (by omega)]; rfl) (fun j hj => frozen_of h1)
  have HFIN : Hid (Og (W1.setCells g ((i + k) * 4) [.int .i64 0, .int .i64 0, .int .i64 0, .string ⟨#[]⟩]) g (i + k) cap (pre ++ post) ∧ Kept (fun q => q = g) w (W1.setCells g ((i + k) * 4) [.int .i64 0, .int .i64 0, .int .i64 0, .string ⟨#[]⟩])) := by
    refine ⟨⟨by simp; omega, by omega, hmx, _, heap_setCells _ _ _ _ _ _ _ h1, by rw [putL_size, hsz1, c2], ?_⟩, Kept.setCells (S := fun q => q = g) rfl _ _ hk1⟩
    subst hi hk
    exact flatN_del pre post e cs cap _ rfl c2 hle c3
  have hW : Hid (W1 = w.drew.setCells g (0 + i * 4) (flatN post)) := hW1
  have s3 : Hid (∀ t, t < (flatN post).length → (w.drew.cell? ⟨g, 0 + i * 4 + t, none⟩).isSome = true ∧ w.drew.frozen? ⟨g, 0 + i * 4 + t, none⟩ = false) := fun t ht => ⟨hO.has (j := 0 + i * 4 + t) (by omega), hO.free _⟩
  have s1 : Hid ((flatN post).length = k * 4) := by show _ = _; omega
  have hsrc' := Lib.hid hsrc
  have e1 : ((i : Int) == (i : Int) + 1) = false := by rw [beq_eq_false_iff_ne]; omega
  have q1 : (i : Int) + 1 ≤ ((i + 1 + k : Nat) : Int) := by omega
  have q2 : ((i + 1 + k : Nat) : Int) ≤ (cap : Int) := by omega
  have q3 : (0 : Int) ≤ (i : Int) := by omega
  have q4 : (i : Int) ≤ (i : Int) + 1 := by omega
  clear hsrc hAD hk1 h1 c1 c2 c3 hW1 hO hlp hlq hsz1
  obtain ⟨n, hnn⟩ : ∃ n, i + 1 + k = n := ⟨_, rfl⟩
  obtain ⟨m, hmm⟩ : ∃ m, i + k = m := ⟨_, rfl⟩
  have HMM := Lib.hid hmm
  have him : i + k ≤ cap := by omega
  simp only [hnn, hmm] at HFIN hcH hcL hc2 hcl q1 q2 ⊢
  clear hnn hmm
  go_enter Tryd.func70, Tryd.ntmps70
  go_upto_region 5 with fail
  go_region_law (refine step_append_room rfl (.tmp 22) (.tmp 25) 22 rfl 46 i0 4 Tryd.underlying22 hi0 hz1 g 0 i cap (by simp [Act.eval, Act.put]) AD k (cap - (i + 1)) (flatN post) (by simp [Act.eval, Act.put]) s1.out hsrc'.out flatN_one' him s3.out ?_; rw [← hW.out, HMM.out])
  go_wp2
  go_ret
  exact ⟨rfl, HFIN.out.1, HFIN.out.2⟩
end Go.Proofs.YthbfmdnibijapaaDoor
