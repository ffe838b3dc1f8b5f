/-
  MOTIONS: targets and what was sought, as results; the search, the search again, the way to a mark.
  MOTIONS: the search again; the way to a mark.
  PLAIN: how many newlines stand ahead of an offset; rows are counted by them.
  A RANGE OVER A STRING, wherever its iterator lies; a place as a result.
  Place OF THE PROGRAM: the row and the column of an offset.
  Place OF THE PROGRAM: where there is no such offset.
  MOTIONS: the four blocks of Go; what it tells.
-/
import Derived.Test.YtbofjefblhnkoaaGreatDoorZMf
import Derived.Test.YtbofjefblhnkoaaGreatDoorZMg
import Derived.Test.YtbofjefblhnkoaaGreatDoorZMh
import Derived.Laws.ResultCell
import Derived.Test.YtbofjefblhnkoaaGreatDoorZM0
import Derived.Laws.Rows
set_option linter.unusedVariables false
namespace Go.Proofs.YtbofjefblhnkoaaGreatDoor
open Go Go.RowKit

abbrev tgtO (x k : Int) : Obj := .cells #[.int .i64 x, .int .i64 k] 67
abbrev sekO (x y : Int) : Obj := .cells #[.int .i64 x, .int .i64 y] 31
abbrev sekV (x y : Int) : Value := .agg #[.int .i64 x, .int .i64 y]
theorem two_facts {w : World} {g : Nat} {x y : Value} {ty : TypeId} (h : w.heap[g]? = some (.cells #[x, y] ty (0, 0))) : w.cell? ⟨g, 0, none⟩ = some x ∧ w.cell? ⟨g, 1, none⟩ = some y ∧ w.frozen? ⟨g, 0, none⟩ = false ∧ w.frozen? ⟨g, 1, none⟩ = false :=
  ⟨by rw [cell_of_row _ _ _ _ _ _ h]; rfl, by rw [cell_of_row _ _ _ _ _ _ h]; rfl, frozen_of h, frozen_of h⟩
theorem set_two {w : World} {g : Nat} {x y : Value} {ty : TypeId} (h : w.heap[g]? = some (.cells #[x, y] ty (0, 0))) (x' y' : Value) : ((w.setCell ⟨g, 0, none⟩ x').setCell ⟨g, 1, none⟩ y').heap[g]? = some (.cells #[x', y'] ty (0, 0)) :=
  (heap_set (heap_set h _) _).trans rfl
theorem set_fst {w : World} {g : Nat} {x y : Value} {ty : TypeId} (h : w.heap[g]? = some (.cells #[x, y] ty (0, 0))) (x' : Value) : (w.setCell ⟨g, 0, none⟩ x').heap[g]? = some (.cells #[x', y] ty (0, 0)) :=
  (heap_set h _).trans rfl
theorem set_snd {w : World} {g : Nat} {x y : Value} {ty : TypeId} (h : w.heap[g]? = some (.cells #[x, y] ty (0, 0))) (y' : Value) : (w.setCell ⟨g, 1, none⟩ y').heap[g]? = some (.cells #[x, y'] ty (0, 0)) :=
  (heap_set h _).trans rfl
theorem Kept.pair {S : Nat → Prop} {w w1 : World} {g : Nat} (h : Kept S w w1) (hg : S g) (v0 v1 : Value) : Kept S w ((w1.setCell ⟨g, 0, none⟩ v0).setCell ⟨g, 1, none⟩ v1) :=
  (h.setCell (p := ⟨g, 0, none⟩) hg _).setCell (p := ⟨g, 1, none⟩) hg _
set_option maxRecDepth 100000 in
theorem res_tgt2 {fn : Func} {p u : Tmp} (h : fn.results = #[.cell p 67, .tmp u]) (tmps : Array Value) (w : World) (g : Nat) (a k : Int) (hp : tmps.getD p undef = .pointer (some ⟨g, 0, none⟩)) (hg : w.heap[g]? = some (tgtO a k)) :
    (results fn tmps).run Tryz.prog w = .ok (.tuple #[tgt a k, tmps.getD u undef]) w := by
  have hl : (loadVar 67 ⟨g, 0, none⟩).run Tryz.prog w = .ok (tgt a k) w := run_loadVar_row w g _ _ _ _ _ hg Tryz.underlying67 rfl (by kernel_rfl)
  rw [results_cell_tmp h, hp]
  simp [asAddr, Result.andThen, hl]
set_option maxRecDepth 100000 in
theorem res_go {fn : Func} {p q u : Tmp} (h : fn.results = #[.cell p 67, .cell q 31, .tmp u]) (tmps : Array Value) (w : World) (g g' : Nat) (a k x y : Int) (hp : tmps.getD p undef = .pointer (some ⟨g, 0, none⟩)) (hq : tmps.getD q undef = .pointer (some ⟨g', 0, none⟩)) (hg : w.heap[g]? = some (tgtO a k)) (hg' : w.heap[g']? = some (sekO x y)) :
    (results fn tmps).run Tryz.prog w = .ok (.tuple #[tgt a k, sekV x y, tmps.getD u undef]) w := by
  have hl : (loadVar 67 ⟨g, 0, none⟩).run Tryz.prog w = .ok (tgt a k) w := run_loadVar_row w g _ _ _ _ _ hg Tryz.underlying67 rfl (by kernel_rfl)
  have hl' : (loadVar 31 ⟨g', 0, none⟩).run Tryz.prog w = .ok (sekV x y) w := run_loadVar_row w g' _ _ _ _ _ hg' Tryz.underlying31 rfl (by kernel_rfl)
  have hp' : tmps[p]?.getD undef = .pointer (some ⟨g, 0, none⟩) := by simpa using hp
  have hq' : tmps[q]?.getD undef = .pointer (some ⟨g', 0, none⟩) := by simpa using hq
  simp only [results, h]
  simp [Sem.run_bind, Result.andThen, asAddr, hp', hq', hl, hl']
theorem mayseek_any (x y : Int) (w : World) : Calls Tryz.prog 50 #[sekV x y] w fun e w' => e = .returned (.bool (decide (x = 0 ∨ Rw.Seek x))) ∧ Kept (fun _ => False) w w' := by
  have hK0 : Hid (Kept (fun _ => False) w (w.alloc (sekO x y))) := (Kept.refl _ w).alloc _
  have cT := fun W => Sk.turned_any x W
  by_cases hs : Rw.Seek x
  · have hx : x ≠ 0 := by rcases hs with h | h | h | h <;> omega
    have b1 : (x == 0) = false := beq_eq_false_iff_ne.2 hx
    rw [decide_eq_true (show x = 0 ∨ Rw.Seek x from .inr hs)]
    have HS := Lib.hid hs
    clear hs hx
    go_enter Tryz.func50, Tryz.ntmps50
    go_wp2_with (go_at_call 41; refine (cT _).mono ?_; rintro e w' ⟨⟨u, v, rfl, _, hv⟩, rfl⟩; obtain rfl : v = 0 := hv HS.out; clear hv)
    go_ret
    exact ⟨rfl, hK0.out⟩
  · by_cases hx : x = 0
    · subst hx
      rw [decide_eq_true (show (0 : Int) = 0 ∨ Rw.Seek 0 from .inl rfl)]
      have HS := Lib.hid hs
      clear hs
      go_enter Tryz.func50, Tryz.ntmps50
      go_wp2_with (go_at_call 41; refine (cT _).mono ?_; rintro e w' ⟨⟨u, v, rfl, hu, _⟩, rfl⟩; obtain ⟨rfl, rfl⟩ := hu HS.out; clear hu)
      go_ret
      exact ⟨rfl, hK0.out⟩
    · have b1 : (x == 0) = false := beq_eq_false_iff_ne.2 hx
      rw [decide_eq_false (show ¬ (x = 0 ∨ Rw.Seek x) from fun h => h.elim hx hs)]
      have HS := Lib.hid hs
      clear hs hx
      go_enter Tryz.func50, Tryz.ntmps50
      go_wp2_with (go_at_call 41; refine (cT _).mono ?_; rintro e w' ⟨⟨u, v, rfl, hu, _⟩, rfl⟩; obtain ⟨rfl, rfl⟩ := hu HS.out; clear hu)
      go_ret
      exact ⟨rfl, hK0.out⟩
/-- On it, or up to it. -/
def kon (x : Int) : Int := if x = 102 ∨ x = 116 then 1 else 0
/-- What the search tells. -/
def fndV (o : Option Int) (x : Int) : Value := match o with
  | none => .tuple #[tgt 0 (kon x), .int .i64 6]
  | some a => .tuple #[tgt a (kon x), .int .i64 0]
set_option maxRecDepth 100000 in
set_option maxHeartbeats 1000000 in
theorem mvfind_yes (s : ByteArray) (k n : Nat) (x y : Int) (w : World) (hT : Tabs w) (hm : mayB s = true) (hk : k ≤ (rs s).length) (h1 : 1 ≤ n) (h2 : n ≤ 999) (hx : Rw.Seek x) :
    Calls Tryz.prog 52 #[.string s, .int .i64 k, sekV x y, .int .i64 n] w fun e w' => e = .returned (fndV (Rw.find (rs s) k x y n) x) ∧ Kept (fun _ => False) w w' := by
  have cF := fun W (hk' : Kept (fun _ => False) w W) => Sk.pf_yes s k n x y W (hT.kept hk' id id) hm hk h1 h2 hx
  have HK1 : Hid (∀ v, Kept (fun _ => False) w ((w.alloc (sekO x y)).alloc (tgtO 0 v))) := fun v => ((Kept.refl _ w).alloc _).alloc _
  have HG1 : Hid (∀ v, ((w.alloc (sekO x y)).alloc (tgtO 0 v)).heap[w.heap.size + 1]? = some (tgtO 0 v)) := fun v => by
    have := heap_alloc_new (w.alloc (sekO x y)) (tgtO 0 v)
    simpa using this
  clear hT
  obtain ⟨o, ho⟩ : ∃ o, Rw.find (rs s) k x y n = o := ⟨_, rfl⟩
  rw [ho]
  simp only [ho] at cF
  clear ho
  obtain ⟨K, hK⟩ : ∃ K, kon x = K := ⟨_, rfl⟩
  unfold fndV
  rw [hK]
  have hc : ((x == 102) = true ∧ K = 1) ∨ ((x == 102) = false ∧ (x == 116) = true ∧ K = 1) ∨ ((x == 102) = false ∧ (x == 116) = false ∧ K = 0) := by
    unfold kon at hK
    by_cases e1 : x = 102
    · exact .inl ⟨by simp [e1], by rw [← hK, if_pos (.inl e1)]⟩
    · by_cases e2 : x = 116
      · exact .inr (.inl ⟨by simp [e1], by simp [e2], by rw [← hK, if_pos (.inr e2)]⟩)
      · exact .inr (.inr ⟨by simp [e1], by simp [e2], by rw [← hK, if_neg (fun h => h.elim e1 e2)]⟩)
  clear hx hK
  cases o with
  | none =>
    rcases hc with ⟨b1, rfl⟩ | ⟨b1, b2, rfl⟩ | ⟨b1, b2, rfl⟩
    all_goals
      go_enter Tryz.func52, Tryz.ntmps52
      go_wp2_with (go_at_call 91; refine (cF _ (HK1.out _)).mono ?_; rintro e w3 ⟨hk3, rfl⟩; have h3 := (hk3.block (w.heap.size + 1) (by simp) id).trans (HG1.out _); obtain ⟨q0, q1, q2, q3⟩ := two_facts h3; have HK3 := Lib.hid ((HK1.out _).trans hk3); have H3 := Lib.hid h3; unfold ansI; clear h3 hk3)
      exact bodyPost_ret (res_tgt2 rfl _ _ (w.heap.size + 1) _ _ rfl (set_two (set_fst H3.out _) _ _)) rfl ⟨rfl, HK3.out.fresh ((((Kept.refl (fun q => q = w.heap.size + 1) w3).setCell (p := ⟨w.heap.size + 1, 0, none⟩) rfl _).setCell (p := ⟨w.heap.size + 1, 0, none⟩) rfl _).setCell (p := ⟨w.heap.size + 1, 1, none⟩) rfl _) (fun q hq e => by omega)⟩
  | some a =>
    rcases hc with ⟨b1, rfl⟩ | ⟨b1, b2, rfl⟩ | ⟨b1, b2, rfl⟩
    all_goals
      go_enter Tryz.func52, Tryz.ntmps52
      go_wp2_with (go_at_call 91; refine (cF _ (HK1.out _)).mono ?_; rintro e w3 ⟨hk3, rfl⟩; have h3 := (hk3.block (w.heap.size + 1) (by simp) id).trans (HG1.out _); obtain ⟨q0, q1, q2, q3⟩ := two_facts h3; have HK3 := Lib.hid ((HK1.out _).trans hk3); have H3 := Lib.hid h3; unfold ansI; clear h3 hk3)
      exact bodyPost_ret (res_tgt2 rfl _ _ (w.heap.size + 1) _ _ rfl (set_two (set_fst H3.out _) _ _)) rfl ⟨rfl, HK3.out.fresh ((((Kept.refl (fun q => q = w.heap.size + 1) w3).setCell (p := ⟨w.heap.size + 1, 0, none⟩) rfl _).setCell (p := ⟨w.heap.size + 1, 0, none⟩) rfl _).setCell (p := ⟨w.heap.size + 1, 1, none⟩) rfl _) (fun q hq e => by omega)⟩
end Go.Proofs.YtbofjefblhnkoaaGreatDoor
namespace Go.Proofs.YtbofjefblhnkoaaGreatDoor
open Go Go.RowKit

theorem turned_yes {x : Int} (hx : Rw.Seek x) (w : World) : Calls Tryz.prog 41 #[.int .i64 x] w fun e w' => e = .returned (.tuple #[.int .i64 (Rw.turn x), .int .i64 0]) ∧ w' = w := by
  rcases hx with rfl | rfl | rfl | rfl
  · exact turned102 w
  · exact turned70 w
  · exact turned116 w
  · exact turned84 w
theorem rturned_yes {x : Int} (hx : Rw.Seek x) (w : World) : Calls Tryz.prog 70 #[.int .i64 x] w fun e w' => e = .returned (.int .i64 (Rw.turn x)) ∧ w' = w := by
  rcases hx with rfl | rfl | rfl | rfl
  · exact rturned102 w
  · exact rturned70 w
  · exact rturned116 w
  · exact rturned84 w
theorem fndV_form (o : Option Int) (x : Int) : ∃ A E : Int, fndV o x = .tuple #[tgt A (kon x), .int .i64 E] := by
  cases o with
  | none => exact ⟨_, _, rfl⟩
  | some a => exact ⟨_, _, rfl⟩
/-- What the search again tells. -/
def agnV (t : List Int) (k : Nat) (key x y : Int) (n : Nat) : Value :=
  if x = 0 then .tuple #[tgt 0 0, .int .i64 6] else fndV (Rw.find t k (if key = 44 then Rw.turn x else x) y n) (if key = 44 then Rw.turn x else x)
set_option maxRecDepth 100000 in
set_option maxHeartbeats 1000000 in
theorem again_yes (s : ByteArray) (k n : Nat) (key x y : Int) (w : World) (hT : Tabs w) (hm : mayB s = true) (hk : k ≤ (rs s).length) (h1 : 1 ≤ n) (h2 : n ≤ 999) (hx : x = 0 ∨ Rw.Seek x) :
    Calls Tryz.prog 53 #[.string s, .int .i64 k, .int .i64 key, sekV x y, .int .i64 n] w fun e w' => e = .returned (agnV (rs s) k key x y n) ∧ Kept (fun _ => False) w w' := by
  have HK1 : Hid (∀ u v, Kept (fun _ => False) w ((w.alloc (sekO u v)).alloc (tgtO 0 0))) := fun u v => ((Kept.refl _ w).alloc _).alloc _
  have HG1 : Hid (∀ u v, ((w.alloc (sekO u v)).alloc (tgtO 0 0)).heap[w.heap.size + 1]? = some (tgtO 0 0)) := fun u v => by
    have := heap_alloc_new (w.alloc (sekO u v)) (tgtO 0 0)
    simpa using this
  by_cases h0 : x = 0
  · subst h0
    have hv : agnV (rs s) k key 0 y n = .tuple #[tgt 0 0, .int .i64 6] := if_pos rfl
    rw [hv]
    clear hx hT hv
    go_enter Tryz.func53, Tryz.ntmps53
    go_wp2
    exact bodyPost_ret (res_tgt2 rfl _ _ (w.heap.size + 1) 0 0 rfl (HG1.out _ _)) rfl ⟨rfl, HK1.out _ _⟩
  · have hs : Rw.Seek x := hx.resolve_left h0
    have b0 : (x == 0) = false := beq_eq_false_iff_ne.2 h0
    have cT := fun W => turned_yes hs W
    by_cases hk44 : key = 44
    · subst hk44
      have hv : agnV (rs s) k 44 x y n = fndV (Rw.find (rs s) k (Rw.turn x) y n) (Rw.turn x) := by unfold agnV; rw [if_neg h0, if_pos rfl]
      rw [hv]
      have cF := fun W (hk' : Kept (fun _ => False) w W) => mvfind_yes s k n (Rw.turn x) y W (hT.kept hk' id id) hm hk h1 h2 (Rw.turn_seek x)
      obtain ⟨A, E, hf⟩ := fndV_form (Rw.find (rs s) k (Rw.turn x) y n) (Rw.turn x)
      rw [hf]
      simp only [hf] at cF
      clear hf hv hx hT hs h0
      generalize Rw.turn x = x' at *
      generalize kon x' = K at *
      go_enter Tryz.func53, Tryz.ntmps53
      go_wp2_with (first
        | (go_at_call 41; refine (cT _).mono ?_; rintro e w2 ⟨rfl, hw⟩; have hw2 := hw.symm; subst hw2)
        | (go_at_call 52; refine (cF _ (HK1.out _ _)).mono ?_; rintro e w3 ⟨rfl, hk3⟩; have h3 := (hk3.block (w.heap.size + 1) (by simp) id).trans (HG1.out _ _); obtain ⟨q0, q1, q2, q3⟩ := two_facts h3; have HK3 := Lib.hid ((HK1.out _ _).trans hk3); have H3 := Lib.hid h3; unfold tgt; clear h3 hk3))
      exact bodyPost_ret (res_tgt2 rfl _ _ (w.heap.size + 1) _ _ rfl (set_two H3.out _ _)) rfl ⟨rfl, HK3.out.fresh (Kept.pair (Kept.refl (fun q => q = w.heap.size + 1) w3) rfl _ _) (fun q hq e => by omega)⟩
    · have hv : agnV (rs s) k key x y n = fndV (Rw.find (rs s) k x y n) x := by unfold agnV; rw [if_neg h0, if_neg hk44]
      rw [hv]
      have b1 : (key == 44) = false := beq_eq_false_iff_ne.2 hk44
      have cF := fun W (hk' : Kept (fun _ => False) w W) => mvfind_yes s k n x y W (hT.kept hk' id id) hm hk h1 h2 hs
      obtain ⟨A, E, hf⟩ := fndV_form (Rw.find (rs s) k x y n) x
      rw [hf]
      simp only [hf] at cF
      clear hf hv hx hT hs h0 hk44
      generalize kon x = K at *
      go_enter Tryz.func53, Tryz.ntmps53
      go_wp2_with (first
        | (go_at_call 52; refine (cF _ (HK1.out _ _)).mono ?_; rintro e w3 ⟨rfl, hk3⟩; have h3 := (hk3.block (w.heap.size + 1) (by simp) id).trans (HG1.out _ _); obtain ⟨q0, q1, q2, q3⟩ := two_facts h3; have HK3 := Lib.hid ((HK1.out _ _).trans hk3); have H3 := Lib.hid h3; unfold tgt; clear h3 hk3))
      exact bodyPost_ret (res_tgt2 rfl _ _ (w.heap.size + 1) _ _ rfl (set_two H3.out _ _)) rfl ⟨rfl, HK3.out.fresh (Kept.pair (Kept.refl (fun q => q = w.heap.size + 1) w3) rfl _ _) (fun q hq e => by omega)⟩
abbrev cmdV (c0 c1 c2 c3 c4 c5 : Int) : Value := .agg #[.int .i64 c0, .int .i64 c1, .int .i64 c2, .int .i64 c3, .int .i64 c4, .int .i64 c5]
abbrev cmdO (c0 c1 c2 c3 c4 c5 : Int) : Obj := .cells #[.int .i64 c0, .int .i64 c1, .int .i64 c2, .int .i64 c3, .int .i64 c4, .int .i64 c5] 46
/-- What the way to a mark tells. -/
def mrkV (t : List Int) (key r : Int) (M : List (List Int)) : Value := match Rw.mget M r with
  | none => .tuple #[tgt 0 0, .int .i64 6]
  | some a => if a ≤ t.length then (if key = 39 then .tuple #[tgt (Rw.fst t a.toNat : Nat) 2, .int .i64 0] else .tuple #[tgt a 0, .int .i64 0]) else .tuple #[tgt 0 0, .int .i64 6]
set_option maxRecDepth 100000 in
set_option maxHeartbeats 1000000 in
theorem tomark_yes (s : ByteArray) (c0 c1 c2 c3 c4 c5 : Int) (A : Option Addr) (n c : Nat) (M : List (List Int)) (w : World) (hT : Tabs w) (hm : mayB s = true) (hA : Rws w A n 2 M) (hn : n ≤ 100000) (ho : Rw.mOk M) (hkey : c3 = 39 ∨ c3 = 96) :
    Calls Tryz.prog 56 #[.string s, cmdV c0 c1 c2 c3 c4 c5, .slice A n c] w fun e w' => e = .returned (mrkV (rs s) c3 c5 M) ∧ Kept (fun _ => False) w w' := by
  have hK1 : Kept (fun _ => False) w ((w.alloc (cmdO c0 c1 c2 c3 c4 c5)).alloc (tgtO 0 0)) := ((Kept.refl _ w).alloc _).alloc _
  have hG1 : ((w.alloc (cmdO c0 c1 c2 c3 c4 c5)).alloc (tgtO 0 0)).heap[w.heap.size + 1]? = some (tgtO 0 0) := by
    have := heap_alloc_new (w.alloc (cmdO c0 c1 c2 c3 c4 c5)) (tgtO 0 0)
    simpa using this
  have hC1 : ((w.alloc (cmdO c0 c1 c2 c3 c4 c5)).alloc (tgtO 0 0)).heap[w.heap.size]? = some (cmdO c0 c1 c2 c3 c4 c5) := by
    have h1 := heap_alloc_new w (cmdO c0 c1 c2 c3 c4 c5)
    have h2 := ((Kept.refl (fun _ => False) (w.alloc (cmdO c0 c1 c2 c3 c4 c5))).alloc (tgtO 0 0)).block w.heap.size (by simp) id
    exact h2.trans h1
  have HK1 := Lib.hid hK1
  have HG1 := Lib.hid hG1
  have HC1 := Lib.hid hC1
  have cG := fun W (hk' : Kept (fun _ => False) w W) => mget_yes A n c M c5 W (hA.kept hk' (fun _ _ => id)) hn ho
  have hrange := fun (y : Int) (hy : Rw.mget M c5 = some y) => ho.range hy
  have hsz := mayB_size hm
  have hry := rs_runey (mayB_valid hm)
  have hlen := rs_len s
  clear hK1 hG1 hC1 hA ho
  unfold mrkV
  cases hg : Rw.mget M c5 with
  | none =>
    simp only [hg] at cG
    clear hT hg
    unfold getT at cG
    simp only at cG
    go_enter Tryz.func56, Tryz.ntmps56
    go_wp2_with (go_at_call 97; refine (cG _ HK1.out).mono ?_; rintro e w3 ⟨rfl, hk3⟩; have h3 := (hk3.block (w.heap.size + 1) (by simp) id).trans HG1.out; obtain ⟨q0, q1, q2, q3⟩ := two_facts h3; have HK3 := Lib.hid (HK1.out.trans hk3); have H3 := Lib.hid h3; clear h3 hk3)
    exact bodyPost_ret (res_tgt2 rfl _ _ (w.heap.size + 1) 0 0 rfl (set_two H3.out _ _)) rfl ⟨rfl, HK3.out.fresh (Kept.pair (Kept.refl (fun q => q = w.heap.size + 1) w3) rfl _ _) (fun q hq e => by omega)⟩
  | some a =>
    obtain ⟨ha0, ha1⟩ := hrange a hg
    obtain ⟨a, rfl⟩ := Int.eq_ofNat_of_zero_le ha0
    simp only [hg] at cG
    clear hg hrange
    unfold getT at cG
    simp only at cG
    by_cases hle : a ≤ (rs s).length
    · have hv : (if (a : Int) ≤ ((rs s).length : Int) then (if c3 = 39 then Value.tuple #[tgt (Rw.fst (rs s) (a : Int).toNat : Nat) 2, .int .i64 0] else .tuple #[tgt a 0, .int .i64 0]) else .tuple #[tgt 0 0, .int .i64 6]) = (if c3 = 39 then Value.tuple #[tgt (Rw.fst (rs s) a : Nat) 2, .int .i64 0] else .tuple #[tgt a 0, .int .i64 0]) := by
        rw [if_pos (by omega)]
        simp
      simp only
      rw [hv]
      clear hv
      have cU := fun W (hk' : Kept (fun _ => False) w W) => runes_yes s a W (hT.kept hk' id id) hm hle
      clear hT
      rcases hkey with rfl | rfl
      · rw [if_pos rfl]
        go_enter Tryz.func56, Tryz.ntmps56
        go_wp2_with (first
          | (go_at_call 97; refine (cG _ HK1.out).mono ?_; rintro e w2 ⟨rfl, hk2⟩; have HK2 := Lib.hid (HK1.out.trans hk2); have H2 := Lib.hid ((hk2.block (w.heap.size + 1) (by simp) id).trans HG1.out); have HC2 := Lib.hid ((hk2.block w.heap.size (by simp; omega) id).trans HC1.out); have HS2 := Lib.hid hk2.size; clear hk2)
          | (go_at_call 34; refine (cU _ HK2.out).mono ?_; rintro e w3 ⟨hk3, b, cap, rfl, hb, hR⟩; have h3 := (hk3.block (w.heap.size + 1) (by have := HS2.out; simp at this; omega) id).trans H2.out; have hc3 : w3.cell? ⟨w.heap.size, 3, none⟩ = some (.int .i64 39) := (cell_of_row _ _ _ _ _ _ ((hk3.block w.heap.size (by have := HS2.out; simp at this; omega) id).trans HC2.out)); obtain ⟨q0, q1, q2, q3⟩ := two_facts h3; have HK3 := Lib.hid (HK2.out.trans hk3); have H3 := Lib.hid h3; have HRN := Lib.hid hR; clear h3 hk3 hR)
          | (go_at_call 98; refine (first_any _ _ _ _ a _ HRN.out hry hle (by omega)).mono ?_; rintro e w4 ⟨rfl, hw⟩; have hw2 := hw.symm; subst hw2))
        exact bodyPost_ret (res_tgt2 rfl _ _ (w.heap.size + 1) _ _ rfl (set_two H3.out _ _)) rfl ⟨rfl, HK3.out.fresh (Kept.pair (Kept.refl (fun q => q = w.heap.size + 1) w3) rfl _ _) (fun q hq e => by omega)⟩
      · rw [if_neg (by decide)]
        go_enter Tryz.func56, Tryz.ntmps56
        go_wp2_with (first
          | (go_at_call 97; refine (cG _ HK1.out).mono ?_; rintro e w2 ⟨rfl, hk2⟩; have HK2 := Lib.hid (HK1.out.trans hk2); have H2 := Lib.hid ((hk2.block (w.heap.size + 1) (by simp) id).trans HG1.out); have HC2 := Lib.hid ((hk2.block w.heap.size (by simp; omega) id).trans HC1.out); have HS2 := Lib.hid hk2.size; clear hk2)
          | (go_at_call 34; refine (cU _ HK2.out).mono ?_; rintro e w3 ⟨hk3, b, cap, rfl, hb, hR⟩; have h3 := (hk3.block (w.heap.size + 1) (by have := HS2.out; simp at this; omega) id).trans H2.out; have hc3 : w3.cell? ⟨w.heap.size, 3, none⟩ = some (.int .i64 96) := (cell_of_row _ _ _ _ _ _ ((hk3.block w.heap.size (by have := HS2.out; simp at this; omega) id).trans HC2.out)); obtain ⟨q0, q1, q2, q3⟩ := two_facts h3; have HK3 := Lib.hid (HK2.out.trans hk3); have H3 := Lib.hid h3; have HRN := Lib.hid hR; clear h3 hk3 hR))
        exact bodyPost_ret (res_tgt2 rfl _ _ (w.heap.size + 1) _ _ rfl (set_two H3.out _ _)) rfl ⟨rfl, HK3.out.fresh (Kept.pair (Kept.refl (fun q => q = w.heap.size + 1) w3) rfl _ _) (fun q hq e => by omega)⟩
    · have hv : (if (a : Int) ≤ ((rs s).length : Int) then (if c3 = 39 then Value.tuple #[tgt (Rw.fst (rs s) (a : Int).toNat : Nat) 2, .int .i64 0] else .tuple #[tgt a 0, .int .i64 0]) else .tuple #[tgt 0 0, .int .i64 6]) = .tuple #[tgt 0 0, .int .i64 6] := by
        rw [if_neg (by omega)]
      simp only
      rw [hv]
      clear hv
      have cU := fun W (hk' : Kept (fun _ => False) w W) => runes_no s a W (by omega) (hT.kept hk' id id) (fun h => hle (by omega))
      clear hT hle hkey
      go_enter Tryz.func56, Tryz.ntmps56
      go_wp2_with (first
        | (go_at_call 97; refine (cG _ HK1.out).mono ?_; rintro e w2 ⟨rfl, hk2⟩; have HK2 := Lib.hid (HK1.out.trans hk2); have H2 := Lib.hid ((hk2.block (w.heap.size + 1) (by simp) id).trans HG1.out); have HS2 := Lib.hid hk2.size; clear hk2)
        | (go_at_call 34; refine (cU _ HK2.out).mono ?_; rintro e w3 ⟨hk3, rfl⟩; have h3 := (hk3.block (w.heap.size + 1) (by have := HS2.out; simp at this; omega) id).trans H2.out; obtain ⟨q0, q1, q2, q3⟩ := two_facts h3; have HK3 := Lib.hid (HK2.out.trans hk3); have H3 := Lib.hid h3; clear h3 hk3))
      exact bodyPost_ret (res_tgt2 rfl _ _ (w.heap.size + 1) 0 0 rfl (set_two H3.out _ _)) rfl ⟨rfl, HK3.out.fresh (Kept.pair (Kept.refl (fun q => q = w.heap.size + 1) w3) rfl _ _) (fun q hq e => by omega)⟩
end Go.Proofs.YtbofjefblhnkoaaGreatDoor
namespace Go.Proofs.YtbofjefblhnkoaaGreatDoor.Rw

/-- The row of an offset: the newlines ahead of it. -/
def nl (t : List Int) (k : Nat) : Nat := (t.take k).count 10
theorem nl_zero (t : List Int) : nl t 0 = 0 := by simp [nl]
theorem nl_le (t : List Int) (k : Nat) : nl t k ≤ k := by
  have h1 := List.count_le_length (a := (10 : Int)) (l := t.take k)
  have h2 := List.length_take_le k t
  unfold nl
  omega
theorem nl_up {t : List Int} {k : Nat} (h : t[k]? = some 10) : nl t (k + 1) = nl t k + 1 := by
  unfold nl
  rw [List.take_add_one, h, List.count_append]
  rfl
theorem nl_stay {t : List Int} {k : Nat} (h : t[k]? ≠ some 10) : nl t (k + 1) = nl t k := by
  unfold nl
  rw [List.take_add_one, List.count_append]
  cases hc : t[k]? with
  | none => rfl
  | some c =>
    have : c ≠ 10 := fun e => h (by rw [hc, e])
    have hb : (c == 10) = false := by simpa using this
    simp [List.count_cons, hb]
theorem nl_same (t : List Int) (k j : Nat) (hkj : k ≤ j) (h : ∀ i, k ≤ i → i < j → t[i]? ≠ some 10) : nl t j = nl t k := by
  obtain ⟨d, rfl⟩ : ∃ d, j = k + d := ⟨j - k, by omega⟩
  clear hkj
  induction d with
  | zero => rfl
  | succ d ih =>
    rw [show k + (d + 1) = (k + d) + 1 by omega, nl_stay (h (k + d) (by omega) (by omega))]
    exact ih fun i h1 h2 => h i h1 (by omega)
/-- Within a row. -/
theorem nl_row (t : List Int) (k j : Nat) (hk : beg t k ≤ j) (hj : j ≤ en t k) : nl t j = nl t k := by
  have hn : ∀ i, beg t k ≤ i → i < en t k → t[i]? ≠ some 10 := fun i h1 h2 => by
    by_cases hi : i < k
    · exact beg_none t k i h1 hi
    · exact en_none t k i (by omega) h2
  have h1 := nl_same t (beg t k) j hk fun i h1 h2 => hn i h1 (by omega)
  have h2 := nl_same t (beg t k) k (beg_le t k) fun i h1 h2 => hn i h1 (by have := en_ge t k; omega)
  omega
theorem dn_snoc (t : List Int) : ∀ (n x : Nat), x ≤ t.length → dn t x (n + 1) = (dn t x n).bind fun y => dn t y 1
  | 0, x, hx => by
    show dn t x 1 = dn t (beg t x) 1
    rw [dn_beg t x hx]
  | n + 1, x, hx => by
    show (if en t x = t.length then none else dn t (en t x + 1) (n + 1)) = (if en t x = t.length then none else dn t (en t x + 1) n).bind _
    by_cases he : en t x = t.length
    · rw [if_pos he, if_pos he]; rfl
    · have := en_le t x hx
      rw [if_neg he, if_neg he, dn_snoc t n (en t x + 1) (by omega)]
theorem dn_nl (t : List Int) : ∀ k, k ≤ t.length → dn t 0 (nl t k) = some (beg t k)
  | 0, _ => by rw [nl_zero]; rfl
  | k + 1, hk => by
    have ih := dn_nl t k (by omega)
    by_cases h : t[k]? = some 10
    · rw [nl_up h, dn_snoc t _ 0 (Nat.zero_le _), ih, beg_stop h]
      show dn t (beg t k) 1 = _
      rw [dn_beg t k (by omega), dn_one t k (by omega), en_stop h, if_neg (by omega)]
    · rw [nl_stay h, beg_step h, ih]
/-- G of a row's number is there. -/
theorem nth_nl (t : List Int) (k : Nat) (hk : k ≤ t.length) : nth t (nl t k + 1) = fst t k := by
  rw [nth_go, show nl t k + 1 - 1 = nl t k by omega, dn_nl t k hk]
  show fst t (beg t k) = fst t k
  unfold fst
  rw [beg_beg]
/-- k behind j. -/
theorem down_up (t : List Int) (k y : Nat) (hk : k ≤ t.length) (hy : dn t k 1 = some y) :
    let x := min (en t y) (y + (k - beg t k))
    x ≤ t.length ∧ nl t x = nl t k + 1 ∧ up t x 1 = some (beg t k) ∧ (let z := min (en t (beg t k)) (beg t k + (x - beg t x)); z ≤ k ∧ nl t z = nl t k) := by
  rw [dn_one t k hk] at hy
  by_cases he : en t k = t.length
  · rw [if_pos he] at hy; cases hy
  · rw [if_neg he] at hy
    injection hy with hy
    have hlt : en t k < t.length := by have := en_le t k hk; omega
    have h10 := en_at t k hlt
    have hby : beg t y = y := by rw [← hy]; exact beg_stop h10
    have hyl : y ≤ t.length := by omega
    have hg := en_ge t y
    have hl := en_le t y hyl
    have hb := beg_le t k
    intro x
    have hx1 : y ≤ x := by omega
    have hx2 : x ≤ en t y := by omega
    have hbx : beg t x = y := beg_of t y x hby hx1 fun i h1 h2 => en_none t y i h1 (by omega)
    have hnx : nl t x = nl t y := nl_row t y x (by rw [hby]; exact hx1) hx2
    have hny : nl t y = nl t k + 1 := by
      rw [← hy, nl_up h10, nl_row t k (en t k) (by have := en_ge t k; omega) (Nat.le_refl _)]
    refine ⟨by omega, by omega, ?_, ?_⟩
    · show (if beg t x = 0 then none else up t (beg t x - 1) 0) = _
      rw [hbx, if_neg (by omega)]
      show some (beg t (y - 1)) = _
      rw [← hy, show en t k + 1 - 1 = en t k by omega, beg_en]
    · intro z
      have hz : z = min (en t (beg t k)) (beg t k + (x - y)) := by show min _ _ = _; rw [hbx]
      have heb := en_beg t k hk
      refine ⟨by omega, ?_⟩
      exact nl_row t k z (by have := en_ge t k; omega) (by omega)
end Go.Proofs.YtbofjefblhnkoaaGreatDoor.Rw
namespace Go.Proofs.YtbofjefblhnkoaaGreatDoor
open Go Go.RowKit

/-- The iterator set on. -/
def setIter (w : World) (g : Nat) (s : ByteArray) (pos : Nat) : World := { w with heap := w.heap.setIfInBounds g (.stringIter s pos) }
theorem run_next_at (w : World) (g : Nat) (s : ByteArray) (pos : Nat) (ty : TypeId) (hg : w.heap[g]? = some (.stringIter s pos)) (hp : pos < s.size) :
    (Instr.next (.pointer (some ⟨g, 0, none⟩)) true ty).run Tryz.prog w = .ok (.tuple #[.bool true, .int .i64 pos, .int .i32 (Utf8.decode s pos).1]) (setIter w g s (pos + (Utf8.decode s pos).2)) := by
  simp only [Instr.next, getObj, setObj, Sem.run_bind, Sem.run, hg, Result.andThen, hp, if_true]
  simp [goInt, setIter]
theorem run_next_done (w : World) (g : Nat) (s : ByteArray) (pos : Nat) (ty : TypeId) (hg : w.heap[g]? = some (.stringIter s pos)) (hp : ¬ pos < s.size) :
    (Instr.next (.pointer (some ⟨g, 0, none⟩)) true ty).run Tryz.prog w = .ok (.tuple #[.bool false]) w := by
  simp [Instr.next, getObj, Sem.run, hg, hp]
theorem iter_same {w : World} {g : Nat} {o : Obj} {s : ByteArray} {pos : Nat} (h : w.heap[g]? = some o) : (setIter w g s pos).heap[g]? = some (.stringIter s pos) := by
  have := heap_lt h
  simp [setIter, this]
theorem iter_far {w : World} {g b : Nat} {s : ByteArray} {pos : Nat} (h : b ≠ g) : (setIter w g s pos).heap[b]? = w.heap[b]? := by
  simp [setIter, Ne.symm h]
theorem Kept.iter (w : World) (g : Nat) (s : ByteArray) (pos : Nat) : Kept (fun b => b = g) w (setIter w g s pos) :=
  ⟨rfl, rfl, rfl, by simp [setIter], fun k _ hk => iter_far hk⟩
theorem iterPos_at {w : World} {g : Nat} {s : ByteArray} {pos : Nat} (h : w.heap[g]? = some (.stringIter s pos)) : w.iterPos g = pos := by
  unfold World.iterPos
  rw [h]
/-- A place in memory, told with an error. -/
theorem res_pos {fn : Func} {p u : Tmp} (h : fn.results = #[.cell p 24, .tmp u]) (tmps : Array Value) (w : World) (g : Nat) (a b : Int) (fr : Nat × Nat) (hp : tmps.getD p undef = .pointer (some ⟨g, 0, none⟩)) (hg : w.heap[g]? = some (.cells #[.int .i64 a, .int .i64 b] 24 fr)) :
    (results fn tmps).run Tryz.prog w = .ok (.tuple #[.agg #[.int .i64 a, .int .i64 b], tmps.getD u undef]) w := by
  rw [results_cell_tmp h, hp]
  simp [asAddr, Result.andThen, run_loadVar_row w g _ _ _ _ _ hg Tryz.underlying24 rfl (by kernel_rfl)]
abbrev posO (a b : Int) : Obj := .cells #[.int .i64 a, .int .i64 b] 24
/-- The runes from a byte on, by what stands there. -/
theorem rune_step {s : ByteArray} {t : List Int} {pos j : Nat} (h : Utf.runes (s.data.toList.drop pos) = t.drop j) (hp : pos < s.size) : t[j]? = some ((Utf8.decode s pos).1 : Int) ∧ Utf.runes (s.data.toList.drop (pos + (Utf8.decode s pos).2)) = t.drop (j + 1) ∧ pos < pos + (Utf8.decode s pos).2 := by
  have e := rune_at s pos hp
  rw [h] at e
  have hl : j < t.length := by
    by_cases hl : j < t.length
    · exact hl
    · rw [List.drop_eq_nil_of_le (by omega)] at e; cases e
  rw [List.drop_eq_getElem_cons hl] at e
  injection e with e1 e2
  refine ⟨by rw [List.getElem?_eq_getElem hl, e1], e2.symm, ?_⟩
  by_cases ha : (s[pos]'hp).toNat < 128
  · rw [decode_ascii s pos hp ha]; simp
  · have := (decode_high s pos hp (by omega)).2
    omega
theorem rune_stop {s : ByteArray} {t : List Int} {pos j : Nat} (h : Utf.runes (s.data.toList.drop pos) = t.drop j) (hp : ¬ pos < s.size) (hj : j ≤ t.length) : j = t.length := by
  rw [rune_end s pos hp] at h
  have := congrArg List.length h
  simp at this
  omega
end Go.Proofs.YtbofjefblhnkoaaGreatDoor
namespace Go.Proofs.YtbofjefblhnkoaaGreatDoor
open Go Go.RowKit

theorem Rw.col_up {t : List Int} {j : Nat} (h : t[j]? = some 10) : j + 1 - Rw.beg t (j + 1) = 0 := by rw [Rw.beg_stop h]; omega
theorem Rw.col_stay {t : List Int} {j : Nat} (h : t[j]? ≠ some 10) : j + 1 - Rw.beg t (j + 1) = j - Rw.beg t j + 1 := by
  rw [Rw.beg_step h]
  have := Rw.beg_le t j
  omega
/-- What the loop holds. -/
structure PlRel (w wr : World) (s : ByteArray) (t : List Int) (gr gp gi j : Nat) : Prop where
  kept : Kept (fun _ => False) w wr
  r : wr.heap[gr]? = some (posO 0 0)
  p : wr.heap[gp]? = some (posO (Rw.nl t j : Nat) (j - Rw.beg t j : Nat))
  i : ∃ pos, wr.heap[gi]? = some (.stringIter s pos) ∧ Utf.runes (s.data.toList.drop pos) = t.drop j
theorem place_form (s : ByteArray) (k : Int) (w : World) (hs : s.size ≤ 140737488351232) (hT : Tabs w) (hm : mayB s = false) :
    Calls Tryz.prog 39 #[.string s, .int .i64 k] w fun e w' => e = .returned (.tuple #[.agg #[.int .i64 0, .int .i64 0], .int .i64 1]) ∧ Kept (fun _ => False) w w' := by
  have hka : Kept (fun _ => False) w (w.alloc (posO 0 0)) := (Kept.refl _ w).alloc _
  have cC := check_any s (w.alloc (posO 0 0)) hs (hT.kept hka id id)
  rw [hm] at cC
  have HKA := Lib.hid hka
  clear hT hm hka
  go_enter Tryz.func39, Tryz.ntmps39
  go_wp2_with (go_at_call 75; refine cC.mono ?_; rintro e w1 ⟨rfl, hk1⟩; have HK1 := Lib.hid hk1; have hr0 : w1.heap[w.heap.size]? = some (posO 0 0) := (HK1.out.block _ (by simp) id).trans (heap_alloc_new w _); have HR := Lib.hid hr0; have d0 : w1.cell? ⟨w.heap.size, 0, none⟩ = some (.int .i64 0) := (by rw [cell_of_row _ _ _ _ _ _ HR.out]; rfl); have d1 : w1.cell? ⟨w.heap.size, 1, none⟩ = some (.int .i64 0) := (by rw [cell_of_row _ _ _ _ _ _ HR.out]; rfl); have e0 : w1.frozen? ⟨w.heap.size, 0, none⟩ = false := frozen_of HR.out; have e1 : w1.frozen? ⟨w.heap.size, 1, none⟩ = false := frozen_of HR.out; clear hk1 cC hr0)
  refine bodyPost_ret (res_pos rfl _ _ w.heap.size 0 0 (0, 0) rfl (by rw [heap_set (heap_set HR.out _) _]; rfl)) rfl ⟨rfl, ?_⟩
  exact (HKA.out.trans HK1.out).fresh (((Kept.refl (fun b => b = w.heap.size) w1).setCell (p := ⟨w.heap.size, 0, none⟩) rfl _).setCell (p := ⟨w.heap.size, 1, none⟩) rfl _) (fun b hb e => by omega)
set_option maxRecDepth 100000 in
set_option maxHeartbeats 1000000 in
theorem place_yes (s : ByteArray) (k : Nat) (w : World) (hT : Tabs w) (hm : mayB s = true) (hk : k ≤ (rs s).length) :
    Calls Tryz.prog 39 #[.string s, .int .i64 k] w fun e w' => e = .returned (.tuple #[.agg #[.int .i64 (Rw.nl (rs s) k : Nat), .int .i64 (k - Rw.beg (rs s) k : Nat)], .int .i64 0]) ∧ Kept (fun _ => False) w w' := by
  have hka : Kept (fun _ => False) w (w.alloc (posO 0 0)) := (Kept.refl _ w).alloc _
  have cC := check_any s (w.alloc (posO 0 0)) (by have := mayB_size hm; omega) (hT.kept hka id id)
  rw [hm] at cC
  have hl := rs_len s
  have hsz := mayB_size hm
  have hrs : Utf.runes s.data.toList = rs s := rfl
  generalize rs s = t at *
  have HKA := Lib.hid hka
  have HRS := Lib.hid hrs
  clear hT hm hka hrs
  go_enter Tryz.func39, Tryz.ntmps39
  go_wp2_with (go_at_call 75; refine cC.mono ?_; rintro e w1 ⟨rfl, hk1⟩; have HK1 := Lib.hid hk1; clear hk1 cC)
  have hsz1 : w.heap.size < w1.heap.size := by have := HK1.out.size; simp at this; omega
  have hr0 : w1.heap[w.heap.size]? = some (posO 0 0) := (HK1.out.block _ (by simp) id).trans (heap_alloc_new w _)
  have hk2 : Kept (fun _ => False) w ((w1.alloc (posO 0 0)).alloc (.stringIter s 0)) := ((HKA.out.trans HK1.out).alloc _).alloc _
  have hr2 : ((w1.alloc (posO 0 0)).alloc (.stringIter s 0)).heap[w.heap.size]? = some (posO 0 0) := (heap_alloc_old _ _ (by simp; omega)).trans ((heap_alloc_old _ _ hsz1).trans hr0)
  have hp2 : ((w1.alloc (posO 0 0)).alloc (.stringIter s 0)).heap[w1.heap.size]? = some (posO 0 0) := (heap_alloc_old _ _ (by simp)).trans (heap_alloc_new w1 _)
  have hi2 : ((w1.alloc (posO 0 0)).alloc (.stringIter s 0)).heap[w1.heap.size + 1]? = some (.stringIter s 0) := by
    have := heap_alloc_new (w1.alloc (posO 0 0)) (.stringIter s 0)
    rwa [show (w1.alloc (posO 0 0)).heap.size = w1.heap.size + 1 by simp] at this
  unfold World.iter
  have hst : PlRel w ((w1.alloc (posO 0 0)).alloc (.stringIter s 0)) s t w.heap.size w1.heap.size (w1.heap.size + 1) 0 := ⟨hk2, hr2, by rw [hp2]; rfl, 0, hi2, by rw [List.drop_zero]; exact HRS.out⟩
  have HST := Lib.hid hst
  clear hst hr0 hk2 hr2 hp2 hi2
  generalize (w1.alloc (posO 0 0)).alloc (.stringIter s 0) = W at *
  obtain ⟨gr, hgr⟩ : ∃ gr, w.heap.size = gr := ⟨_, rfl⟩
  obtain ⟨gp, hgp⟩ : ∃ gp, w1.heap.size = gp := ⟨_, rfl⟩
  obtain ⟨gi, hgi⟩ : ∃ gi, w1.heap.size + 1 = gi := ⟨_, rfl⟩
  have HGR := Lib.hid hgr
  have hx1 : gr < gp := by omega
  have hx2 : gp < gi := by omega
  have HX := Lib.hid (And.intro hx1 hx2)
  simp only [hgi] at HST ⊢
  simp only [hgp, hgr] at HST ⊢
  clear hgr hgp hgi hsz1 hx1 hx2
  go_loopw [8] (fun v wr => ∃ j : Nat, j ≤ k ∧ v = .int .i64 j ∧ PlRel w wr s t gr gp gi j) (fun _ wr => s.size - wr.iterPos gi)
  case atStart => exact ⟨0, Nat.zero_le _, rfl, HST.out⟩
  case round =>
    obtain ⟨j, hj, rfl, hrel⟩ := hrel
    obtain ⟨hkw, hr, hp, pos, hi, hdr⟩ := hrel
    have hpos := iterPos_at hi
    have HKW := Lib.hid hkw
    have HR := Lib.hid hr
    have HP := Lib.hid hp
    have HI := Lib.hid hi
    have HDR := Lib.hid hdr
    have HPOS := Lib.hid hpos
    clear hkw hr hp hi hdr hpos
    by_cases hps : pos < s.size
    · obtain ⟨hc, hdr2, hlt⟩ := rune_step HDR.out hps
      have hnx : ∀ ty, (Instr.next (.pointer (some ⟨gi, 0, none⟩)) true ty).run Tryz.prog wr = _ := fun ty => run_next_at wr gi s pos ty HI.out hps
      have HC := Lib.hid hc
      have HDR2 := Lib.hid hdr2
      generalize (Utf8.decode s pos).2 = wd at *
      generalize ((Utf8.decode s pos).1 : Int) = c at *
      clear hc hdr2
      go_upto_region 9 with fail
      have HK2 : Hid (Kept (fun _ => False) w (setIter wr gi s (pos + wd))) := HKW.out.fresh (Kept.iter wr gi s _) (fun b hb e => by have := HGR.out; have := HX.out; omega)
      have hr2 : (setIter wr gi s (pos + wd)).heap[gr]? = some (posO 0 0) := (iter_far (by have := HX.out; omega)).trans HR.out
      have hp2 : (setIter wr gi s (pos + wd)).heap[gp]? = some (posO (Rw.nl t j : Nat) (j - Rw.beg t j : Nat)) := (iter_far (by have := HX.out; omega)).trans HP.out
      have hi2 := iter_same (s := s) (pos := pos + wd) HI.out
      generalize setIter wr gi s (pos + wd) = W2 at *
      have HP2 := Lib.hid (iterPos_at hi2)
      obtain ⟨cl, hcl⟩ : ∃ cl, j - Rw.beg t j = cl := ⟨_, rfl⟩
      obtain ⟨ro, hrw⟩ : ∃ ro, Rw.nl t j = ro := ⟨_, rfl⟩
      have hnl := Rw.nl_le t j
      have HCL := Lib.hid hcl
      have HRW := Lib.hid hrw
      rw [hcl, hrw] at hp2
      have hcl4 : cl ≤ 4000 := by omega
      have hrw4 : ro ≤ 4000 := by omega
      have c0 : W2.cell? ⟨gp, 0, none⟩ = some (.int .i64 (ro : Nat)) := by rw [cell_of_row _ _ _ _ _ _ hp2]; rfl
      have c1 : W2.cell? ⟨gp, 1, none⟩ = some (.int .i64 (cl : Nat)) := by rw [cell_of_row _ _ _ _ _ _ hp2]; rfl
      have f0 : W2.frozen? ⟨gp, 0, none⟩ = false := frozen_of hp2
      have f1 : W2.frozen? ⟨gp, 1, none⟩ = false := frozen_of hp2
      have d0 : W2.cell? ⟨gr, 0, none⟩ = some (.int .i64 0) := by rw [cell_of_row _ _ _ _ _ _ hr2]; rfl
      have d1 : W2.cell? ⟨gr, 1, none⟩ = some (.int .i64 0) := by rw [cell_of_row _ _ _ _ _ _ hr2]; rfl
      have e0 : W2.frozen? ⟨gr, 0, none⟩ = false := frozen_of hr2
      have e1 : W2.frozen? ⟨gr, 1, none⟩ = false := frozen_of hr2
      have hne : gr ≠ gp := by have := HX.out; omega
      have HRR := Lib.hid hr2
      have HPP := Lib.hid hp2
      have HII := Lib.hid hi2
      have HNE := Lib.hid hne
      clear hr2 hp2 hi2 hcl hrw hnl hnx hne
      by_cases hjk : j = k
      · subst hjk
        go_wp2
        refine bodyPost_ret (res_pos rfl _ _ gr (ro : Nat) (cl : Nat) (0, 0) rfl (by rw [heap_set (heap_set HRR.out _) _]; rfl)) rfl ⟨by rw [HRW.out, HCL.out]; rfl, ?_⟩
        exact HK2.out.fresh (((Kept.refl (fun b => b = gr) W2).setCell (p := ⟨gr, 0, none⟩) rfl _).setCell (p := ⟨gr, 1, none⟩) rfl _) (fun b hb e => by have := HGR.out; omega)
      · have e3 : ((j : Int) == (k : Int)) = false := by rw [beq_eq_false_iff_ne]; omega
        have e4 : (j == k) = false := by rw [beq_eq_false_iff_ne]; exact hjk
        have hjk1 : j + 1 ≤ k := by omega
        clear hjk
        by_cases h10 : c = 10
        · subst h10
          have HU := Lib.hid (Rw.nl_up HC.out)
          have HV := Lib.hid (Rw.col_up HC.out)
          go_wp2
          go_roundw
          case rel =>
            refine ⟨j + 1, hjk1, by go_num, ?_, ?_, ?_, pos + wd, ?_, HDR2.out⟩
            · exact HK2.out.fresh ((((Kept.refl (fun b => b = gp) W2).setCell (p := ⟨gp, 1, none⟩) rfl _).setCell (p := ⟨gp, 0, none⟩) rfl _).setCell (p := ⟨gp, 1, none⟩) rfl _) (fun b hb e => by have := HGR.out; have := HX.out; omega)
            · exact (heap_far HNE.out _).trans ((heap_far HNE.out _).trans ((heap_far HNE.out _).trans HRR.out))
            · rw [heap_set (heap_set (heap_set HPP.out _) _) _, HU.out, HV.out, HRW.out]
              rfl
            · exact (heap_far (by have := HX.out; omega) _).trans ((heap_far (by have := HX.out; omega) _).trans ((heap_far (by have := HX.out; omega) _).trans HII.out))
          case measure =>
            rw [iterPos_at ((heap_far (by have := HX.out; omega) _).trans ((heap_far (by have := HX.out; omega) _).trans ((heap_far (by have := HX.out; omega) _).trans HII.out))), HPOS.out]
            omega
        · have b3 : (c == 10) = false := by rw [beq_eq_false_iff_ne]; exact h10
          have HU := Lib.hid (Rw.nl_stay (t := t) (k := j) (by rw [HC.out]; intro e; injection e with e; exact h10 e))
          have HV := Lib.hid (Rw.col_stay (t := t) (j := j) (by rw [HC.out]; intro e; injection e with e; exact h10 e))
          clear h10
          go_wp2
          go_roundw
          case rel =>
            refine ⟨j + 1, hjk1, by go_num, ?_, ?_, ?_, pos + wd, ?_, HDR2.out⟩
            · exact HK2.out.fresh ((Kept.refl (fun b => b = gp) W2).setCell (p := ⟨gp, 1, none⟩) rfl _) (fun b hb e => by have := HGR.out; have := HX.out; omega)
            · exact (heap_far HNE.out _).trans HRR.out
            · rw [heap_set HPP.out _, HU.out, HV.out, HRW.out, HCL.out]
              rfl
            · exact (heap_far (by have := HX.out; omega) _).trans HII.out
          case measure =>
            rw [iterPos_at ((heap_far (by have := HX.out; omega) _).trans HII.out), HPOS.out]
            omega
    · have hjn := rune_stop HDR.out hps (by omega)
      have hnx : ∀ ty, (Instr.next (.pointer (some ⟨gi, 0, none⟩)) true ty).run Tryz.prog wr = _ := fun ty => run_next_done wr gi s pos ty HI.out hps
      obtain rfl : j = k := by omega
      have c0 : wr.cell? ⟨gp, 0, none⟩ = some (.int .i64 (Rw.nl t j : Nat)) := by rw [cell_of_row _ _ _ _ _ _ HP.out]; rfl
      have c1 : wr.cell? ⟨gp, 1, none⟩ = some (.int .i64 (j - Rw.beg t j : Nat)) := by rw [cell_of_row _ _ _ _ _ _ HP.out]; rfl
      have f0 : wr.frozen? ⟨gp, 0, none⟩ = false := frozen_of HP.out
      have f1 : wr.frozen? ⟨gp, 1, none⟩ = false := frozen_of HP.out
      have d0 : wr.cell? ⟨gr, 0, none⟩ = some (.int .i64 0) := by rw [cell_of_row _ _ _ _ _ _ HR.out]; rfl
      have d1 : wr.cell? ⟨gr, 1, none⟩ = some (.int .i64 0) := by rw [cell_of_row _ _ _ _ _ _ HR.out]; rfl
      have e0 : wr.frozen? ⟨gr, 0, none⟩ = false := frozen_of HR.out
      have e1 : wr.frozen? ⟨gr, 1, none⟩ = false := frozen_of HR.out
      obtain ⟨ro, hro⟩ : ∃ ro, Rw.nl t j = ro := ⟨_, rfl⟩
      obtain ⟨cl, hcl⟩ : ∃ cl, j - Rw.beg t j = cl := ⟨_, rfl⟩
      rw [hro] at c0
      rw [hcl] at c1
      have HRO := Lib.hid hro
      have HCL := Lib.hid hcl
      clear hro hcl
      clear hps hjn
      go_wp2
      refine bodyPost_ret (res_pos rfl _ _ gr (ro : Nat) (cl : Nat) (0, 0) rfl (by rw [heap_set (heap_set HR.out _) _]; rfl)) rfl ⟨by rw [HRO.out, HCL.out]; rfl, ?_⟩
      exact HKW.out.fresh (((Kept.refl (fun b => b = gr) wr).setCell (p := ⟨gr, 0, none⟩) rfl _).setCell (p := ⟨gr, 1, none⟩) rfl _) (fun b hb e => by have := HGR.out; omega)
end Go.Proofs.YtbofjefblhnkoaaGreatDoor
namespace Go.Proofs.YtbofjefblhnkoaaGreatDoor
open Go Go.RowKit

set_option maxRecDepth 100000 in
set_option maxHeartbeats 1000000 in
theorem place_none (s : ByteArray) (k : Int) (w : World) (hT : Tabs w) (hm : mayB s = true) (hk : ¬ (0 ≤ k ∧ k ≤ (rs s).length)) :
    Calls Tryz.prog 39 #[.string s, .int .i64 k] w fun e w' => e = .returned (.tuple #[.agg #[.int .i64 0, .int .i64 0], .int .i64 3]) ∧ Kept (fun _ => False) w w' := by
  have hka : Kept (fun _ => False) w (w.alloc (posO 0 0)) := (Kept.refl _ w).alloc _
  have cC := check_any s (w.alloc (posO 0 0)) (by have := mayB_size hm; omega) (hT.kept hka id id)
  rw [hm] at cC
  have hl := rs_len s
  have hsz := mayB_size hm
  have hrs : Utf.runes s.data.toList = rs s := rfl
  generalize rs s = t at *
  have HKA := Lib.hid hka
  have HRS := Lib.hid hrs
  clear hT hm hka hrs
  go_enter Tryz.func39, Tryz.ntmps39
  go_wp2_with (go_at_call 75; refine cC.mono ?_; rintro e w1 ⟨rfl, hk1⟩; have HK1 := Lib.hid hk1; clear hk1 cC)
  have hsz1 : w.heap.size < w1.heap.size := by have := HK1.out.size; simp at this; omega
  have hr0 : w1.heap[w.heap.size]? = some (posO 0 0) := (HK1.out.block _ (by simp) id).trans (heap_alloc_new w _)
  have hk2 : Kept (fun _ => False) w ((w1.alloc (posO 0 0)).alloc (.stringIter s 0)) := ((HKA.out.trans HK1.out).alloc _).alloc _
  have hr2 : ((w1.alloc (posO 0 0)).alloc (.stringIter s 0)).heap[w.heap.size]? = some (posO 0 0) := (heap_alloc_old _ _ (by simp; omega)).trans ((heap_alloc_old _ _ hsz1).trans hr0)
  have hp2 : ((w1.alloc (posO 0 0)).alloc (.stringIter s 0)).heap[w1.heap.size]? = some (posO 0 0) := (heap_alloc_old _ _ (by simp)).trans (heap_alloc_new w1 _)
  have hi2 : ((w1.alloc (posO 0 0)).alloc (.stringIter s 0)).heap[w1.heap.size + 1]? = some (.stringIter s 0) := by
    have := heap_alloc_new (w1.alloc (posO 0 0)) (.stringIter s 0)
    rwa [show (w1.alloc (posO 0 0)).heap.size = w1.heap.size + 1 by simp] at this
  unfold World.iter
  have hst : PlRel w ((w1.alloc (posO 0 0)).alloc (.stringIter s 0)) s t w.heap.size w1.heap.size (w1.heap.size + 1) 0 := ⟨hk2, hr2, by rw [hp2]; rfl, 0, hi2, by rw [List.drop_zero]; exact HRS.out⟩
  have HST := Lib.hid hst
  clear hst hr0 hk2 hr2 hp2 hi2
  generalize (w1.alloc (posO 0 0)).alloc (.stringIter s 0) = W at *
  obtain ⟨gr, hgr⟩ : ∃ gr, w.heap.size = gr := ⟨_, rfl⟩
  obtain ⟨gp, hgp⟩ : ∃ gp, w1.heap.size = gp := ⟨_, rfl⟩
  obtain ⟨gi, hgi⟩ : ∃ gi, w1.heap.size + 1 = gi := ⟨_, rfl⟩
  have HGR := Lib.hid hgr
  have hx1 : gr < gp := by omega
  have hx2 : gp < gi := by omega
  have HX := Lib.hid (And.intro hx1 hx2)
  simp only [hgi] at HST ⊢
  simp only [hgp, hgr] at HST ⊢
  clear hgr hgp hgi hsz1 hx1 hx2
  go_loopw [8] (fun v wr => ∃ j : Nat, j ≤ t.length ∧ v = .int .i64 j ∧ PlRel w wr s t gr gp gi j) (fun _ wr => s.size - wr.iterPos gi)
  case atStart => exact ⟨0, Nat.zero_le _, rfl, HST.out⟩
  case round =>
    obtain ⟨j, hj, rfl, hrel⟩ := hrel
    obtain ⟨hkw, hr, hp, pos, hi, hdr⟩ := hrel
    have hpos := iterPos_at hi
    have HKW := Lib.hid hkw
    have HR := Lib.hid hr
    have HP := Lib.hid hp
    have HI := Lib.hid hi
    have HDR := Lib.hid hdr
    have HPOS := Lib.hid hpos
    clear hkw hr hp hi hdr hpos
    by_cases hps : pos < s.size
    · obtain ⟨hc, hdr2, hlt⟩ := rune_step HDR.out hps
      have hnx : ∀ ty, (Instr.next (.pointer (some ⟨gi, 0, none⟩)) true ty).run Tryz.prog wr = _ := fun ty => run_next_at wr gi s pos ty HI.out hps
      have HC := Lib.hid hc
      have HDR2 := Lib.hid hdr2
      generalize (Utf8.decode s pos).2 = wd at *
      generalize ((Utf8.decode s pos).1 : Int) = c at *
      clear hc hdr2
      go_upto_region 9 with fail
      have HK2 : Hid (Kept (fun _ => False) w (setIter wr gi s (pos + wd))) := HKW.out.fresh (Kept.iter wr gi s _) (fun b hb e => by have := HGR.out; have := HX.out; omega)
      have hr2 : (setIter wr gi s (pos + wd)).heap[gr]? = some (posO 0 0) := (iter_far (by have := HX.out; omega)).trans HR.out
      have hp2 : (setIter wr gi s (pos + wd)).heap[gp]? = some (posO (Rw.nl t j : Nat) (j - Rw.beg t j : Nat)) := (iter_far (by have := HX.out; omega)).trans HP.out
      have hi2 := iter_same (s := s) (pos := pos + wd) HI.out
      generalize setIter wr gi s (pos + wd) = W2 at *
      have HP2 := Lib.hid (iterPos_at hi2)
      obtain ⟨cl, hcl⟩ : ∃ cl, j - Rw.beg t j = cl := ⟨_, rfl⟩
      obtain ⟨ro, hrw⟩ : ∃ ro, Rw.nl t j = ro := ⟨_, rfl⟩
      have hnl := Rw.nl_le t j
      have HCL := Lib.hid hcl
      have HRW := Lib.hid hrw
      rw [hcl, hrw] at hp2
      have hcl4 : cl ≤ 4000 := by omega
      have hrw4 : ro ≤ 4000 := by omega
      have c0 : W2.cell? ⟨gp, 0, none⟩ = some (.int .i64 (ro : Nat)) := by rw [cell_of_row _ _ _ _ _ _ hp2]; rfl
      have c1 : W2.cell? ⟨gp, 1, none⟩ = some (.int .i64 (cl : Nat)) := by rw [cell_of_row _ _ _ _ _ _ hp2]; rfl
      have f0 : W2.frozen? ⟨gp, 0, none⟩ = false := frozen_of hp2
      have f1 : W2.frozen? ⟨gp, 1, none⟩ = false := frozen_of hp2
      have d0 : W2.cell? ⟨gr, 0, none⟩ = some (.int .i64 0) := by rw [cell_of_row _ _ _ _ _ _ hr2]; rfl
      have d1 : W2.cell? ⟨gr, 1, none⟩ = some (.int .i64 0) := by rw [cell_of_row _ _ _ _ _ _ hr2]; rfl
      have e0 : W2.frozen? ⟨gr, 0, none⟩ = false := frozen_of hr2
      have e1 : W2.frozen? ⟨gr, 1, none⟩ = false := frozen_of hr2
      have hne : gr ≠ gp := by have := HX.out; omega
      have HRR := Lib.hid hr2
      have HPP := Lib.hid hp2
      have HII := Lib.hid hi2
      have HNE := Lib.hid hne
      clear hr2 hp2 hi2 hcl hrw hnl hnx hne
      have hjt : j < t.length := (List.getElem?_eq_some_iff.1 HC.out).1
      have e3 : ((j : Int) == k) = false := by rw [beq_eq_false_iff_ne]; omega
      have hjk1 : j + 1 ≤ t.length := hjt
      clear hjt
      · by_cases h10 : c = 10
        · subst h10
          have HU := Lib.hid (Rw.nl_up HC.out)
          have HV := Lib.hid (Rw.col_up HC.out)
          go_wp2
          go_roundw
          case rel =>
            refine ⟨j + 1, hjk1, by go_num, ?_, ?_, ?_, pos + wd, ?_, HDR2.out⟩
            · exact HK2.out.fresh ((((Kept.refl (fun b => b = gp) W2).setCell (p := ⟨gp, 1, none⟩) rfl _).setCell (p := ⟨gp, 0, none⟩) rfl _).setCell (p := ⟨gp, 1, none⟩) rfl _) (fun b hb e => by have := HGR.out; have := HX.out; omega)
            · exact (heap_far HNE.out _).trans ((heap_far HNE.out _).trans ((heap_far HNE.out _).trans HRR.out))
            · rw [heap_set (heap_set (heap_set HPP.out _) _) _, HU.out, HV.out, HRW.out]
              rfl
            · exact (heap_far (by have := HX.out; omega) _).trans ((heap_far (by have := HX.out; omega) _).trans ((heap_far (by have := HX.out; omega) _).trans HII.out))
          case measure =>
            rw [iterPos_at ((heap_far (by have := HX.out; omega) _).trans ((heap_far (by have := HX.out; omega) _).trans ((heap_far (by have := HX.out; omega) _).trans HII.out))), HPOS.out]
            omega
        · have b3 : (c == 10) = false := by rw [beq_eq_false_iff_ne]; exact h10
          have HU := Lib.hid (Rw.nl_stay (t := t) (k := j) (by rw [HC.out]; intro e; injection e with e; exact h10 e))
          have HV := Lib.hid (Rw.col_stay (t := t) (j := j) (by rw [HC.out]; intro e; injection e with e; exact h10 e))
          clear h10
          go_wp2
          go_roundw
          case rel =>
            refine ⟨j + 1, hjk1, by go_num, ?_, ?_, ?_, pos + wd, ?_, HDR2.out⟩
            · exact HK2.out.fresh ((Kept.refl (fun b => b = gp) W2).setCell (p := ⟨gp, 1, none⟩) rfl _) (fun b hb e => by have := HGR.out; have := HX.out; omega)
            · exact (heap_far HNE.out _).trans HRR.out
            · rw [heap_set HPP.out _, HU.out, HV.out, HRW.out, HCL.out]
              rfl
            · exact (heap_far (by have := HX.out; omega) _).trans HII.out
          case measure =>
            rw [iterPos_at ((heap_far (by have := HX.out; omega) _).trans HII.out), HPOS.out]
            omega
    · have hjn := rune_stop HDR.out hps (by omega)
      have hnx : ∀ ty, (Instr.next (.pointer (some ⟨gi, 0, none⟩)) true ty).run Tryz.prog wr = _ := fun ty => run_next_done wr gi s pos ty HI.out hps
      have d0 : wr.cell? ⟨gr, 0, none⟩ = some (.int .i64 0) := by rw [cell_of_row _ _ _ _ _ _ HR.out]; rfl
      have d1 : wr.cell? ⟨gr, 1, none⟩ = some (.int .i64 0) := by rw [cell_of_row _ _ _ _ _ _ HR.out]; rfl
      have e0 : wr.frozen? ⟨gr, 0, none⟩ = false := frozen_of HR.out
      have e1 : wr.frozen? ⟨gr, 1, none⟩ = false := frozen_of HR.out
      have e3 : ((j : Int) == k) = false := by rw [beq_eq_false_iff_ne]; omega
      have e4 : ((j : Int) != k) = true := by rw [bne_iff_ne]; omega
      clear hps hjn
      go_wp2
      refine bodyPost_ret (res_pos rfl _ _ gr 0 0 (0, 0) rfl (by rw [heap_set (heap_set HR.out _) _]; rfl)) rfl ⟨rfl, ?_⟩
      exact HKW.out.fresh (((Kept.refl (fun b => b = gr) wr).setCell (p := ⟨gr, 0, none⟩) rfl _).setCell (p := ⟨gr, 1, none⟩) rfl _) (fun b hb e => by have := HGR.out; omega)
end Go.Proofs.YtbofjefblhnkoaaGreatDoor
namespace Go.Proofs.YtbofjefblhnkoaaGreatDoor
open Go Go.RowKit

/-- The blocks that Go lays: its command, what was sought, and its two results. -/
structure Four (W : World) (B : Nat) (c0 c1 c2 c3 c4 c5 k1 k2 t0 t1 x0 x1 : Int) : Prop where
  a : W.heap[B]? = some (cmdO c0 c1 c2 c3 c4 c5)
  b : W.heap[B + 1]? = some (sekO k1 k2)
  c : W.heap[B + 1 + 1]? = some (tgtO t0 t1)
  d : W.heap[B + 1 + 1 + 1]? = some (sekO x0 x1)
section
variable {W W' : World} {B : Nat} {c0 c1 c2 c3 c4 c5 k1 k2 t0 t1 x0 x1 : Int}
theorem Four.kept (h : Four W B c0 c1 c2 c3 c4 c5 k1 k2 t0 t1 x0 x1) (hk : Kept (fun _ => False) W W') : Four W' B c0 c1 c2 c3 c4 c5 k1 k2 t0 t1 x0 x1 :=
  ⟨(hk.block _ (heap_lt h.a) id).trans h.a, (hk.block _ (heap_lt h.b) id).trans h.b, (hk.block _ (heap_lt h.c) id).trans h.c, (hk.block _ (heap_lt h.d) id).trans h.d⟩
theorem Four.setX (h : Four W B c0 c1 c2 c3 c4 c5 k1 k2 t0 t1 x0 x1) (x y : Int) : Four ((W.setCell ⟨B + 1 + 1 + 1, 0, none⟩ (.int .i64 x)).setCell ⟨B + 1 + 1 + 1, 1, none⟩ (.int .i64 y)) B c0 c1 c2 c3 c4 c5 k1 k2 t0 t1 x y :=
  ⟨(heap_far (by omega) _).trans ((heap_far (by omega) _).trans h.a), (heap_far (by omega) _).trans ((heap_far (by omega) _).trans h.b), (heap_far (by omega) _).trans ((heap_far (by omega) _).trans h.c), set_two h.d _ _⟩
theorem Four.setS (h : Four W B c0 c1 c2 c3 c4 c5 k1 k2 t0 t1 x0 x1) (x y : Int) : Four ((W.setCell ⟨B + 1, 0, none⟩ (.int .i64 x)).setCell ⟨B + 1, 1, none⟩ (.int .i64 y)) B c0 c1 c2 c3 c4 c5 x y t0 t1 x0 x1 :=
  ⟨(heap_far (by omega) _).trans ((heap_far (by omega) _).trans h.a), set_two h.b _ _, (heap_far (by omega) _).trans ((heap_far (by omega) _).trans h.c), (heap_far (by omega) _).trans ((heap_far (by omega) _).trans h.d)⟩
theorem Four.setT (h : Four W B c0 c1 c2 c3 c4 c5 k1 k2 t0 t1 x0 x1) (x y : Int) : Four ((W.setCell ⟨B + 1 + 1, 0, none⟩ (.int .i64 x)).setCell ⟨B + 1 + 1, 1, none⟩ (.int .i64 y)) B c0 c1 c2 c3 c4 c5 k1 k2 x y x0 x1 :=
  ⟨(heap_far (by omega) _).trans ((heap_far (by omega) _).trans h.a), (heap_far (by omega) _).trans ((heap_far (by omega) _).trans h.b), set_two h.c _ _, (heap_far (by omega) _).trans ((heap_far (by omega) _).trans h.d)⟩
theorem Four.setT0 (h : Four W B c0 c1 c2 c3 c4 c5 k1 k2 t0 t1 x0 x1) (x : Int) : Four (W.setCell ⟨B + 1 + 1, 0, none⟩ (.int .i64 x)) B c0 c1 c2 c3 c4 c5 k1 k2 x t1 x0 x1 :=
  ⟨(heap_far (by omega) _).trans h.a, (heap_far (by omega) _).trans h.b, set_fst h.c _, (heap_far (by omega) _).trans h.d⟩
theorem Four.setT1 (h : Four W B c0 c1 c2 c3 c4 c5 k1 k2 t0 t1 x0 x1) (y : Int) : Four (W.setCell ⟨B + 1 + 1, 1, none⟩ (.int .i64 y)) B c0 c1 c2 c3 c4 c5 k1 k2 t0 y x0 x1 :=
  ⟨(heap_far (by omega) _).trans h.a, (heap_far (by omega) _).trans h.b, set_snd h.c _, (heap_far (by omega) _).trans h.d⟩
/-- Its cells that are asked for. -/
theorem Four.facts (h : Four W B c0 c1 c2 c3 c4 c5 k1 k2 t0 t1 x0 x1) : W.cell? ⟨B, 1, none⟩ = some (.int .i64 c1) ∧ W.cell? ⟨B, 3, none⟩ = some (.int .i64 c3) ∧ W.cell? ⟨B, 5, none⟩ = some (.int .i64 c5) ∧
    (W.cell? ⟨B + 1, 0, none⟩ = some (.int .i64 k1) ∧ W.cell? ⟨B + 1, 1, none⟩ = some (.int .i64 k2) ∧ W.frozen? ⟨B + 1, 0, none⟩ = false ∧ W.frozen? ⟨B + 1, 1, none⟩ = false) ∧
    (W.cell? ⟨B + 1 + 1, 0, none⟩ = some (.int .i64 t0) ∧ W.cell? ⟨B + 1 + 1, 1, none⟩ = some (.int .i64 t1) ∧ W.frozen? ⟨B + 1 + 1, 0, none⟩ = false ∧ W.frozen? ⟨B + 1 + 1, 1, none⟩ = false) ∧
    (W.cell? ⟨B + 1 + 1 + 1, 0, none⟩ = some (.int .i64 x0) ∧ W.cell? ⟨B + 1 + 1 + 1, 1, none⟩ = some (.int .i64 x1) ∧ W.frozen? ⟨B + 1 + 1 + 1, 0, none⟩ = false ∧ W.frozen? ⟨B + 1 + 1 + 1, 1, none⟩ = false) :=
  ⟨by rw [cell_of_row _ _ _ _ _ _ h.a]; rfl, by rw [cell_of_row _ _ _ _ _ _ h.a]; rfl, by rw [cell_of_row _ _ _ _ _ _ h.a]; rfl, two_facts h.b, two_facts h.c, two_facts h.d⟩
/-- The whole command. -/
theorem Four.cmd (h : Four W B c0 c1 c2 c3 c4 c5 k1 k2 t0 t1 x0 x1) : W.cell? ⟨B, 0, none⟩ = some (.int .i64 c0) ∧ W.cell? ⟨B, 2, none⟩ = some (.int .i64 c2) ∧ W.cell? ⟨B, 4, none⟩ = some (.int .i64 c4) :=
  ⟨by rw [cell_of_row _ _ _ _ _ _ h.a]; rfl, by rw [cell_of_row _ _ _ _ _ _ h.a]; rfl, by rw [cell_of_row _ _ _ _ _ _ h.a]; rfl⟩
end
/-- They are laid. -/
theorem four_new (w : World) (c0 c1 c2 c3 c4 c5 k1 k2 : Int) : Four ((((w.alloc (cmdO c0 c1 c2 c3 c4 c5)).alloc (sekO k1 k2)).alloc (tgtO 0 0)).alloc (sekO 0 0)) w.heap.size c0 c1 c2 c3 c4 c5 k1 k2 0 0 0 0 := by
  have a1 := heap_alloc_new w (cmdO c0 c1 c2 c3 c4 c5)
  have b1 := heap_alloc_new (w.alloc (cmdO c0 c1 c2 c3 c4 c5)) (sekO k1 k2)
  have c1' := heap_alloc_new ((w.alloc (cmdO c0 c1 c2 c3 c4 c5)).alloc (sekO k1 k2)) (tgtO 0 0)
  have d1 := heap_alloc_new (((w.alloc (cmdO c0 c1 c2 c3 c4 c5)).alloc (sekO k1 k2)).alloc (tgtO 0 0)) (sekO 0 0)
  have ka := ((Kept.refl (fun _ => False) (w.alloc (cmdO c0 c1 c2 c3 c4 c5))).alloc (sekO k1 k2)).alloc (tgtO 0 0) |>.alloc (sekO 0 0)
  have kb := ((Kept.refl (fun _ => False) ((w.alloc (cmdO c0 c1 c2 c3 c4 c5)).alloc (sekO k1 k2))).alloc (tgtO 0 0)).alloc (sekO 0 0)
  have kc := (Kept.refl (fun _ => False) (((w.alloc (cmdO c0 c1 c2 c3 c4 c5)).alloc (sekO k1 k2)).alloc (tgtO 0 0))).alloc (sekO 0 0)
  refine ⟨(ka.block _ (heap_lt a1) id).trans a1, ?_, ?_, ?_⟩
  · have := (kb.block _ (heap_lt b1) id).trans b1
    simpa using this
  · have := (kc.block _ (heap_lt c1') id).trans c1'
    simpa using this
  · simpa using d1
/-- What Go tells. -/
def goV (o : Option (Int × Int × Int × Int)) : Value := match o with
  | none => .tuple #[tgt 0 0, sekV 0 0, .int .i64 6]
  | some p => .tuple #[tgt p.1 p.2.1, sekV p.2.2.1 p.2.2.2, .int .i64 0]
theorem goV_form (o : Option (Int × Int × Int × Int)) : ∃ a b c d E : Int, goV o = .tuple #[tgt a b, sekV c d, .int .i64 E] := by
  cases o with
  | none => exact ⟨_, _, _, _, _, rfl⟩
  | some p => exact ⟨_, _, _, _, _, rfl⟩
/-- What a callee tells that tells a whole target. -/
def whV (o : Option (Int × Int)) (Z : Int) : Value := match o with
  | none => .tuple #[tgt 0 Z, .int .i64 6]
  | some p => .tuple #[tgt p.1 p.2, .int .i64 0]
theorem fndV_wh (o : Option Int) (x : Int) : fndV o x = whV (o.map fun a => (a, kon x)) (kon x) := by cases o <;> rfl
theorem ans_wh (o : Option Nat) (K : Int) : ans o K = whV (o.map fun (a : Nat) => ((a : Int), K)) 0 := by cases o <;> rfl
theorem mrk_go (t : List Int) (key r x y : Int) (M : List (List Int)) : ∃ o : Option (Int × Int), mrkV t key r M = whV o 0 ∧ Rw.goMark t key r x y M = o.map fun p => (p.1, p.2, x, y) := by
  unfold mrkV Rw.goMark
  cases Rw.mget M r with
  | none => exact ⟨none, rfl, rfl⟩
  | some a =>
    simp only
    by_cases h1 : a ≤ (t.length : Int)
    · rw [if_pos h1, if_pos h1]
      by_cases h2 : key = 39
      · rw [if_pos h2, if_pos h2]; exact ⟨some ((Rw.fst t a.toNat : Nat), 2), rfl, rfl⟩
      · rw [if_neg h2, if_neg h2]; exact ⟨some (a, 0), rfl, rfl⟩
    · rw [if_neg h1, if_neg h1]; exact ⟨none, rfl, rfl⟩
end Go.Proofs.YtbofjefblhnkoaaGreatDoor
