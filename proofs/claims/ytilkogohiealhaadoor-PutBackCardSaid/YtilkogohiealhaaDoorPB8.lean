/-
  COMMANDS OF SINGLE RUNES: what may be asked; slices.Clone, Grow, Concat of runes; the program's made and rest.
  THE REFERENCE's made and tidy (chapter 18).
  COMMANDS OF SINGLE RUNES: the error of form; x and X, of the program and of the reference.
  A LETTER TURNED: the reference's Turned.
  COMMANDS OF SINGLE RUNES: r and ~, of the program and of the reference; by these keys both tell the same; that small wakes.
-/
import Derived.Test.YtilkogohiealhaaDoorPB7
import Derived.Laws.AppendOwn
import Derived.Laws.AppendOwnNone
import Derived.Laws.OwnMore
import Derived.Lib.AppendZeros
set_option linter.unusedVariables false
namespace Go.Proofs.YtilkogohiealhaaDoor
open Go Go.RowKit

/-- May it be typed? -/
def Typ (r : Int) : Prop := 32 ≤ r ∧ r ≤ 1114111 ∧ (r < 55296 ∨ 57343 < r)
instance (r : Int) : Decidable (Typ r) := by unfold Typ; infer_instance
theorem Typ.valid {r : Int} (h : Typ r) : Utf8.valid r = true := by
  obtain ⟨h1, h2, h3⟩ := h
  have : (0 ≤ r ∧ r < 55296) ∨ (57344 ≤ r ∧ r ≤ 1114111) := by omega
  simp [Utf8.valid]
  omega
theorem typ_zones (r : Int) : (r < 32 ∧ ¬ Typ r) ∨ (32 ≤ r ∧ r < 55296 ∧ Typ r) ∨ (55296 ≤ r ∧ r ≤ 57343 ∧ ¬ Typ r) ∨ (57344 ≤ r ∧ r ≤ 1114111 ∧ Typ r) ∨ (1114112 ≤ r ∧ ¬ Typ r) := by
  unfold Typ
  omega
/-- Runes with some of them set over. -/
def Rw.rep (t : List Int) (lo hi : Nat) (r : Int) : List Int := t.take lo ++ List.replicate (hi - lo) r ++ t.drop hi
theorem Rw.rep_len {t : List Int} {lo hi : Nat} {r : Int} (h1 : lo ≤ hi) (h2 : hi ≤ t.length) : (Rw.rep t lo hi r).length = t.length := by
  unfold Rw.rep
  rw [List.length_append, List.length_append, List.length_take, List.length_replicate, List.length_drop]
  omega
theorem Rw.rep_lo {t : List Int} {lo : Nat} {r : Int} : Rw.rep t lo lo r = t := by
  unfold Rw.rep
  rw [Nat.sub_self, List.replicate_zero, List.append_nil, List.take_append_drop]
theorem Rw.rep_at {t : List Int} {lo hi : Nat} {r : Int} (h1 : lo ≤ hi) (h2 : hi ≤ t.length) (i : Nat) : (Rw.rep t lo hi r)[i]? = if lo ≤ i ∧ i < hi then some r else t[i]? := by
  unfold Rw.rep
  by_cases hA : i < lo
  · rw [List.append_assoc, List.getElem?_append_left (by rw [List.length_take]; omega), List.getElem?_take_of_lt hA, if_neg (by omega)]
  · by_cases hB : i < hi
    · rw [List.getElem?_append_left (by rw [List.length_append, List.length_take, List.length_replicate]; omega), List.getElem?_append_right (by rw [List.length_take]; omega), List.length_take, List.getElem?_replicate, if_pos (by omega), if_pos (by omega)]
    · rw [List.getElem?_append_right (by rw [List.length_append, List.length_take, List.length_replicate]; omega), List.length_append, List.length_take, List.length_replicate, List.getElem?_drop, if_neg (by omega)]
      congr 1
      omega
theorem Rw.rep_step {t : List Int} {lo i : Nat} {r : Int} (h1 : lo ≤ i) (h2 : i < t.length) : (Rw.rep t lo i r).set i r = Rw.rep t lo (i + 1) r := by
  apply List.ext_getElem?
  intro j
  rw [Rw.rep_at (by omega) (by omega)]
  by_cases e : i = j
  · subst e
    rw [List.getElem?_set_self (by rw [Rw.rep_len h1 (by omega)]; exact h2), if_pos (by omega)]
  · rw [List.getElem?_set_ne e, Rw.rep_at h1 (by omega)]
    by_cases h : lo ≤ j ∧ j < i
    · rw [if_pos h, if_pos (by omega)]
    · rw [if_neg h, if_neg (by omega)]
theorem Rw.rep_get {t : List Int} {lo i : Nat} {r : Int} (h1 : lo ≤ i) (h2 : i < t.length) : ∃ x, (Rw.rep t lo i r)[i]? = some x :=
  ⟨_, List.getElem?_eq_getElem (by rw [Rw.rep_len h1 (by omega)]; exact h2)⟩
theorem Rw.rep_vld {t : List Int} {lo hi : Nat} {r : Int} (ht : Vld t) (hr : Utf8.valid r = true) : Vld (Rw.rep t lo hi r) := fun x hx => by
  unfold Rw.rep at hx
  rcases List.mem_append.1 hx with hx | hx
  · rcases List.mem_append.1 hx with hx | hx
    · exact ht x (List.mem_of_mem_take hx)
    · rw [List.eq_of_mem_replicate hx]; exact hr
  · exact ht x (List.mem_of_mem_drop hx)
theorem txt_size4 (t : List Int) : (runesBytes t).size ≤ 4 * t.length := by
  rw [txt_size]
  induction t with
  | nil => exact Nat.le_refl _
  | cons c l ih => show (Utf.enc c ++ Utf.bytes l).length ≤ _; have := (Utf.enc_length c).2; rw [List.length_append, List.length_cons]; omega

set_option maxRecDepth 100000 in
theorem between_no (a b : ByteArray) (w : World) (hT : Tabs w) (hma : mayB a = true) (hmb : mayB b = false) (hb : b.size ≤ 140737488351232) :
    Calls Tryd.prog 26 #[.string a, .string b] w fun e w' => e = .returned (.tuple #[patV 0 0 ⟨#[]⟩, .int .i64 1]) ∧ Kept (fun _ => False) w w' := by
  have hka : Kept (fun _ => False) w (w.alloc (patO 0 0 ⟨#[]⟩)) := (Kept.refl _ w).alloc _
  have hTa := hT.kept hka id id
  have hsa := mayB_size hma
  have cA := check_any a (w.alloc (patO 0 0 ⟨#[]⟩)) (by omega) hTa
  have cB := fun W (hW : Tabs W) => check_any b W hb hW
  rw [hma] at cA
  rw [hmb] at cB
  have HKA := Lib.hid hka
  have HTA := Lib.hid hTa
  have HG0 : Hid ((w.alloc (patO 0 0 ⟨#[]⟩)).heap[w.heap.size]? = some (patO 0 0 ⟨#[]⟩)) := heap_alloc_new w _
  obtain ⟨g, hg⟩ : ∃ g, w.heap.size = g := ⟨_, rfl⟩
  have HGS := Lib.hid hg
  clear hT hma hmb hka hTa
  go_enter Tryd.func26, Tryd.ntmps26
  go_wp2_with fail
  simp only [hg] at HG0 ⊢
  clear hg
  generalize w.alloc (patO 0 0 ⟨#[]⟩) = wa at *
  refine cA.mono ?_
  rintro e w1 ⟨rfl, hk1⟩
  have HK1 := Lib.hid (HKA.out.trans hk1)
  have HT1 := Lib.hid (HTA.out.kept hk1 id id)
  have HG1 := Lib.hid ((hk1.block g (heap_lt HG0.out) id).trans HG0.out)
  clear hk1 cA
  go_wp2_with fail
  refine (cB w1 HT1.out).mono ?_
  rintro e w2 ⟨rfl, hk2⟩
  have HK2 := Lib.hid (HK1.out.trans hk2)
  have HG2 := Lib.hid ((hk2.block g (heap_lt HG1.out) id).trans HG1.out)
  clear hk2 cB
  obtain ⟨g0, g1, g2⟩ : w2.cell? ⟨g, 0, none⟩ = some (.int .i64 0) ∧ w2.cell? ⟨g, 1, none⟩ = some (.int .i64 0) ∧ w2.cell? ⟨g, 2, none⟩ = some (.string ⟨#[]⟩) :=
    ⟨by rw [cell_of_row _ _ _ _ _ _ HG2.out]; rfl, by rw [cell_of_row _ _ _ _ _ _ HG2.out]; rfl, by rw [cell_of_row _ _ _ _ _ _ HG2.out]; rfl⟩
  have k0 : w2.frozen? ⟨g, 0, none⟩ = false := frozen_of HG2.out
  have k1 : w2.frozen? ⟨g, 1, none⟩ = false := frozen_of HG2.out
  have k2 : w2.frozen? ⟨g, 2, none⟩ = false := frozen_of HG2.out
  go_wp2
  refine bodyPost_ret (res_pat rfl _ _ g 0 0 ⟨#[]⟩ (0, 0) rfl ((heap_set (heap_set (heap_set HG2.out _) _) _).trans rfl)) rfl ⟨rfl, ?_⟩
  exact HK2.out.fresh ((((Kept.refl (fun b => b = g) w2).setCell (p := ⟨g, 0, none⟩) rfl _).setCell (p := ⟨g, 1, none⟩) rfl _).setCell (p := ⟨g, 2, none⟩) rfl _) (fun b hb e => by have := HGS.out; omega)
/-- The keys of the chapter. -/
def smKeys : List Int := [120, 88, 114, 126, 74]
/-- May it be asked, of so many runes? -/
def SmOk (n : Nat) (k key r c : Int) : Prop := (0 ≤ k ∧ k ≤ (n : Int)) ∧ key ∈ smKeys ∧ (1 ≤ c ∧ c ≤ 999) ∧ (key = 114 → Typ r)
/-- May it be asked of a text? -/
def GoodS (s : ByteArray) (k key r c : Int) : Prop := mayB s = true ∧ SmOk (rs s).length k key r c
/-- What the reference tells where it may be: the same, or an error, and then the program tells that error and nothing else. -/
def RefS (s : ByteArray) (k key r c : Int) (a d : Int) (p : ByteArray) (x : Int) (tk : ByteArray) (l : Bool) (E : Int) : Prop :=
  ∀ w, Tabs w → Calls Tryd.prog 6 #[.string s, .int .i64 k, .int .i64 key, .int .i64 r, .int .i64 c] w fun e w' =>
    (∃ (B ra rd : Int) (rp : ByteArray) (rx : Int) (rt : ByteArray) (rl : Bool), e = .returned (.tuple #[chgV ra rd rp rx rt rl, .int .i64 B]) ∧ E = B ∧
      ((B = 0 ∧ ra = a ∧ rd = d ∧ rp = p ∧ rx = x ∧ rt = tk ∧ rl = l) ∨ ((B != 0) = true ∧ a = 0 ∧ d = 0 ∧ p = ⟨#[]⟩ ∧ x = 0 ∧ tk = ⟨#[]⟩ ∧ l = false))) ∧ Kept (fun _ => False) w w'
def ToldS (s : ByteArray) (k key r c : Int) (a d : Int) (p : ByteArray) (x : Int) (tk : ByteArray) (l : Bool) (E : Int) : Prop :=
  (GoodS s k key r c → RefS s k key r c a d p x tk l E) ∧ (¬ GoodS s k key r c → a = 0 ∧ d = 0 ∧ p = ⟨#[]⟩ ∧ x = 0 ∧ tk = ⟨#[]⟩ ∧ l = false ∧ E = 1)
/-- What is told where nothing comes of it. -/
def NoneC (f : FuncId) (args : Array Value) (E : Int) : Prop := ∀ w, Tabs w → Calls Tryd.prog f args w fun e w' => e = .returned (.tuple #[chgV 0 0 ⟨#[]⟩ 0 ⟨#[]⟩ false, .int .i64 E]) ∧ Kept (fun _ => False) w w'
/-- What is told where a change comes of it. -/
def SomeC (f : FuncId) (args : Array Value) (a d : Int) (p : ByteArray) (x : Int) (tk : ByteArray) : Prop := ∀ w, Tabs w → Calls Tryd.prog f args w fun e w' => e = .returned (.tuple #[chgV a d p x tk false, .int .i64 0]) ∧ Kept (fun _ => False) w w'
abbrev smArgs (s : ByteArray) (k key r c : Int) : Array Value := #[.string s, .int .i64 k, .int .i64 key, .int .i64 r, .int .i64 c]
set_option maxRecDepth 100000 in
theorem eql_nil (w : World) (a : Addr) (n c : Nat) : (binOp .eql 30 (.slice (some a) n c) (.slice none 0 0)).run Tryd.prog w = .ok (.bool false) w := by
  have h : ∀ d : Nat, (Op.equalIn (d + 1) 30 (.slice (some a) n c) (.slice none 0 0)).run Tryd.prog w = .ok false w := fun d => by
    simp [Op.equalIn, run_underlying Tryd.underlying30]
  simp only [binOp]
  simp [Op.equal, Op.maxDepth, h 9999]
theorem cutB_none (c lo : Nat) : cutB none c lo = none := by unfold cutB; split <;> rfl
theorem cutB_zero' (A : Option Addr) (c : Nat) : cutB A c 0 = A := by
  unfold cutB
  split
  · rfl
  · cases A with
    | none => rfl
    | some a => simp [Addr.add]
theorem zc_size (n : Nat) : (Builtin.zeroCells (Value.int .i32 0).cells n).size = n * 1 := by simp [Builtin.zeroCells, Value.cells]
/-- What is owned reads as runes. -/
theorem owned_runes {w : World} {base : Nat} {v : Value} {n : Nat} {t : List Int} (h : w.ownsRow base 21 1 v n (t.map (Value.int .i32))) :
    (v = .slice none 0 0 ∧ n = 0 ∧ t = []) ∨ ∃ g cap, v = .slice (some ⟨g, 0, none⟩) n cap ∧ base ≤ g ∧ n ≤ cap ∧ OwnR w g n t := by
  have hcells : ∀ g, v.ownBlock = some g → ∀ j u, (t.map (Value.int .i32))[j]? = some u → w.cell? ((⟨g, 0, none⟩ : Addr).add j) = some u := fun g hg => h.cells hg
  have hlen : t.length = n := by have := h.1; rw [List.length_map, Nat.mul_one] at this; exact this
  rcases h.2 with ⟨rfl, rfl⟩ | ⟨g, cap, cur, rfl, hb, hh, hcap, _, _, _⟩
  · exact .inl ⟨rfl, rfl, List.eq_nil_of_length_eq_zero hlen⟩
  · exact .inr ⟨g, cap, rfl, hb, hcap, ⟨hlen, fun j x hj => ⟨_, rfl, hcells g rfl j (.int .i32 x) (by rw [List.getElem?_map, hj]; rfl)⟩⟩, _, _, hh⟩
theorem one_runes (t : List Int) : ∀ u ∈ t.map (Value.int .i32), u.oneCell' = true := fun u hu => by
  obtain ⟨x, _, rfl⟩ := List.mem_map.1 hu
  rfl
theorem rn_news {w : World} {ad : Addr} {n : Nat} {t : List Int} (h : Rn w (some ad) n t) : ∀ j u, (t.map (Value.int .i32))[j]? = some u → w.cell? (ad.add j) = some u := fun j u hj => by
  rw [List.getElem?_map] at hj
  cases hx : t[j]? with
  | none => rw [hx] at hj; cases hj
  | some x =>
    rw [hx] at hj
    injection hj with hj
    obtain ⟨a, e, hc⟩ := h.2 j x hx
    injection e with e
    subst e
    rw [← hj]
    exact hc
/-- Pieces of runes, side by side in a block. -/
def Parts (w : World) (pb : Nat) (ps : List (Addr × Nat × Nat × List Int)) : Prop := ∀ (j : Nat) p, ps[j]? = some p → w.cell? ⟨pb, j, none⟩ = some (.slice (some p.1) p.2.1 p.2.2.1) ∧ Rn w (some p.1) p.2.1 p.2.2.2
def flat (ps : List (Addr × Nat × Nat × List Int)) : List Int := ps.flatMap (·.2.2.2)
theorem flat_take {ps : List (Addr × Nat × Nat × List Int)} {j : Nat} {p : Addr × Nat × Nat × List Int} (h : ps[j]? = some p) : flat (ps.take (j + 1)) = flat (ps.take j) ++ p.2.2.2 := by
  unfold flat
  rw [List.take_add_one, h, List.flatMap_append]
  simp
theorem flat_sub (ps : List (Addr × Nat × Nat × List Int)) (j : Nat) : (flat (ps.take j)).length ≤ (flat ps).length := by
  have : ps = ps.take j ++ ps.drop j := (List.take_append_drop j ps).symm
  conv => rhs; rw [this]
  unfold flat
  rw [List.flatMap_append, List.length_append]
  omega
theorem Parts.kept {w w' : World} {pb : Nat} {ps : List (Addr × Nat × Nat × List Int)} (h : Parts w pb ps) (hk : Kept (fun _ => False) w w') : Parts w' pb ps := fun j p hj => by
  obtain ⟨h1, h2⟩ := h j p hj
  exact ⟨cell_kept hk h1 id, h2.kept hk (fun _ _ => id)⟩
abbrev zeroS : Obj := chgO 0 0 ⟨#[]⟩ 0 ⟨#[]⟩ false
theorem heap_drew' {w : World} {g : Nat} {o : Option Obj} (h : w.heap[g]? = o) : w.drew.heap[g]? = o := h
theorem pat_facts' {w : World} {g : Nat} {a d : Int} {s : ByteArray} (h : w.heap[g]? = some (patO a d s)) : w.cell? ⟨g, 0, none⟩ = some (.int .i64 a) ∧ w.cell? ⟨g, 1, none⟩ = some (.int .i64 d) ∧ w.cell? ⟨g, 2, none⟩ = some (.string s) :=
  ⟨by rw [cell_of_row _ _ _ _ _ _ h]; rfl, by rw [cell_of_row _ _ _ _ _ _ h]; rfl, by rw [cell_of_row _ _ _ _ _ _ h]; rfl⟩
theorem cutB_some (a : Addr) (c lo : Nat) : ∃ ad, cutB (some a) c lo = some ad := by
  unfold cutB
  split
  · exact ⟨_, rfl⟩
  · exact ⟨_, rfl⟩
end Go.Proofs.YtilkogohiealhaaDoor
namespace Go.Proofs.YtilkogohiealhaaDoor
open Go Go.RowKit

set_option maxRecDepth 100000 in
theorem rmade_yes (s x : ByteArray) (at' : Nat) (w : World) (hs : s.size ≤ 4000) (hT : Tabs w) (hm : mayB x = true) :
    Calls Tryd.prog 19 #[.string s, .string x, .int .i64 at'] w fun e w' => e = .returned (.tuple #[chgV (Rw.bat (rs s) (rs x) : Nat) (Rw.bdel (rs s) (rs x) : Nat) (runesBytes (Rw.bins (rs s) (rs x))) at' ⟨#[]⟩ false, .int .i64 0]) ∧ Kept (fun _ => False) w w' := by
  have hka : Kept (fun _ => False) w (w.alloc (chgO 0 0 ⟨#[]⟩ 0 ⟨#[]⟩ false)) := (Kept.refl _ w).alloc _
  have HG0 : Hid ((w.alloc (chgO 0 0 ⟨#[]⟩ 0 ⟨#[]⟩ false)).heap[w.heap.size]? = some (chgO 0 0 ⟨#[]⟩ 0 ⟨#[]⟩ false)) := heap_alloc_new w _
  have hsx := mayB_size hm
  have cM := rmay_any x _ (by omega) (hT.kept hka id id)
  rw [hm] at cM
  have cB := fun W => rbetween_yes s x W hs hsx
  unfold btw at cB
  generalize ((Rw.bat (rs s) (rs x) : Nat) : Int) = PA at *
  generalize ((Rw.bdel (rs s) (rs x) : Nat) : Int) = PD at *
  generalize runesBytes (Rw.bins (rs s) (rs x)) = PI at *
  have HKA := Lib.hid hka
  have HCB := Lib.hid cB
  clear hka hT hm cB
  obtain ⟨g, hg⟩ : ∃ g, w.heap.size = g := ⟨_, rfl⟩
  have HGS := Lib.hid hg
  go_enter Tryd.func19, Tryd.ntmps19
  go_upto_region 1 with fail
  simp only [hg] at HG0 ⊢
  clear hg
  go_wp2_with (first
    | (go_at_call 5; refine cM.mono ?_; rintro e w1 ⟨rfl, hk1⟩; have HK1 := Lib.hid (HKA.out.trans hk1); have HG1 := Lib.hid ((hk1.block _ (heap_lt HG0.out) id).trans HG0.out); clear hk1 cM)
    | (go_at_call 34; refine (HCB.out _).mono ?_; rintro e w2 ⟨rfl, hk2⟩; have HK2 := Lib.hid (HK1.out.trans hk2); have HG2 := Lib.hid ((hk2.block _ (heap_lt HG1.out) id).trans HG1.out); clear hk2; obtain ⟨⟨c0, c1, c2, c3, c4, c5⟩, k0, k1, k2, k3, k4, k5⟩ := chg_facts HG2.out))
  refine bodyPost_ret (res_chg rfl _ _ g _ _ _ _ _ _ (0, 0) rfl (chg_six HG2.out _ _ _ _ _ _)) rfl ⟨rfl, ?_⟩
  exact HK2.out.fresh (Kept.six (Kept.refl (fun q => q = g) w2) rfl _ _ _ _ _ _) (fun b hb e => by have := HGS.out; omega)
end Go.Proofs.YtilkogohiealhaaDoor
namespace Go.Proofs.YtilkogohiealhaaDoor
open Go Go.RowKit

/-- What x and X take: from where, up to where. -/
def cutS (t : List Int) (key : Int) (k c : Nat) : Nat × Nat := if key = 120 then (k, min (k + c) (Rw.en t k)) else (max (k - c) (Rw.beg t k), k)
theorem cutS_le {t : List Int} {key : Int} {k c : Nat} (hk : k ≤ t.length) : (cutS t key k c).1 ≤ (cutS t key k c).2 ∧ (cutS t key k c).2 ≤ t.length := by
  unfold cutS
  have h1 := Rw.en_ge t k
  have h2 := Rw.en_le t k hk
  have h3 := Rw.beg_le t k
  split
  · exact ⟨by show k ≤ min _ _; omega, by show min _ _ ≤ _; omega⟩
  · exact ⟨by show max _ _ ≤ k; omega, hk⟩
/-- The change that x and X make, if it takes anything. -/
def CutV (s : ByteArray) (key : Int) (L H : Nat) (v : Value) : Prop :=
  (L = H → v = .tuple #[chgV 0 0 ⟨#[]⟩ 0 ⟨#[]⟩ false, .int .i64 6]) ∧
  (L < H → v = .tuple #[chgV (Rw.bat (rs s) (Rw.lft (rs s) L H) : Nat) (Rw.bdel (rs s) (Rw.lft (rs s) L H) : Nat) (runesBytes (Rw.bins (rs s) (Rw.lft (rs s) L H))) ((if key = 120 then Rw.rst (Rw.lft (rs s) L H) L else L : Nat) : Int) (runesBytes (Rw.tkn (rs s) L H)) false, .int .i64 0])
/-- The change that is told, as it lies in a tuple. -/
def chgT (a d : Int) (p : ByteArray) (x : Int) (tk : ByteArray) (E : Int) : Value := .tuple #[chgV a d p x tk false, .int .i64 E]
/-- What holds of memory while the reference works. -/
structure RsI (b g : Nat) (t : List Int) (W : World) : Prop where
  tabs : Tabs W
  rn : Rn W (some ⟨b, 0, none⟩) t.length t
  chg : W.heap[g]? = some zeroS
theorem RsI.kept {b g : Nat} {t : List Int} {W W' : World} (h : RsI b g t W) (hk : Kept (fun _ => False) W W') : RsI b g t W' :=
  ⟨h.tabs.kept hk id id, h.rn.kept hk (fun _ _ => id), (hk.block _ (heap_lt h.chg) id).trans h.chg⟩
theorem RsI.drewN {b g : Nat} {t : List Int} {W : World} (h : RsI b g t W) (q : Nat) : RsI b g t (W.drewN q) := ⟨h.tabs, h.rn, h.chg⟩
theorem cutS_way {t : List Int} {key : Int} {k c : Nat} (hkey : key = 120 ∨ key = 88) : (key = 120 ∧ (cutS t key k c).1 = k ∧ (cutS t key k c).2 = min (k + c) (Rw.en t k)) ∨ (key = 88 ∧ (cutS t key k c).1 = max (k - c) (Rw.beg t k) ∧ (cutS t key k c).2 = k) := by
  rcases hkey with rfl | rfl
  · exact .inl ⟨rfl, rfl, rfl⟩
  · exact .inr ⟨rfl, rfl, rfl⟩
set_option maxRecDepth 100000 in
set_option maxHeartbeats 2000000 in
theorem rsmall_cut (s : ByteArray) (key r : Int) (k c : Nat) (w : World) (hT : Tabs w) (hm : mayB s = true) (hk : k ≤ (rs s).length) (hc1 : 1 ≤ c) (hc2 : c ≤ 999) (hkey : key = 120 ∨ key = 88) :
    Calls Tryd.prog 6 (smArgs s k key r c) w fun e w' => (∃ v, e = .returned v ∧ CutV s key (cutS (rs s) key k c).1 (cutS (rs s) key k c).2 v) ∧ Kept (fun _ => False) w w' := by
  have HG0 : Hid ((w.alloc zeroS).heap[w.heap.size]? = some zeroS) := heap_alloc_new w _
  have HKA : Hid (Kept (fun _ => False) w (w.alloc zeroS)) := (Kept.refl _ w).alloc _
  have HTA : Hid (Tabs (w.alloc zeroS)) := hT.kept HKA.out id id
  have hsm := mayB_size hm
  have hl4 : (rs s).length ≤ 4000 := by have := rs_len s; omega
  obtain ⟨hle1, hle2⟩ := cutS_le (key := key) (c := c) hk
  have hcs := cutS_way (t := rs s) (k := k) (c := c) hkey
  have hbl := Rw.beg_le (rs s) k
  have hel := Rw.en_le (rs s) k hk
  have cV := fun W => conv_rs s W (by omega)
  generalize (cutS (rs s) key k c).1 = L at *
  generalize (cutS (rs s) key k c).2 = H at *
  have hll := Rw.lft_len (rs s) L H hle1 hle2
  have hmx := may_sub hm (Rw.lft_sub (rs s) L H hle1)
  have hxr : rs (runesBytes (Rw.lft (rs s) L H)) = Rw.lft (rs s) L H := rs_txt ((rs_vld hm).sub fun r hr => (Rw.lft_sub (rs s) L H hle1).subset hr)
  have cM := fun W hW at' => rmade_yes s (runesBytes (Rw.lft (rs s) L H)) at' W hsm hW hmx
  have cU := fun W => conv_rs (runesBytes (Rw.lft (rs s) L H)) W (by have := mayB_size hmx; omega)
  have cR := fun b cap W (hW : Rn W (some ⟨b, 0, none⟩) (Rw.lft (rs s) L H).length (Rw.lft (rs s) L H)) => rrest_any (some ⟨b, 0, none⟩) _ cap _ L W hW (by omega) (by omega)
  rw [hxr] at cM cU
  have hb0 := rs_bytes hm
  have hsA : (runesBytes ((rs s).take L)).size ≤ 4000 := txt_le (List.take_sublist _ _) (by omega)
  have hsC : (runesBytes ((rs s).drop H)).size ≤ 4000 := txt_le (List.drop_sublist _ _) (by omega)
  have HTX : Hid (runesBytes ((rs s).take L) ++ runesBytes ((rs s).drop H) = runesBytes (Rw.lft (rs s) L H)) := txt_append _ _
  have HCV : Hid ((L = H → CutV s key L H (.tuple #[chgV 0 0 ⟨#[]⟩ 0 ⟨#[]⟩ false, .int .i64 6])) ∧ (L < H → CutV s key L H (.tuple #[chgV (Rw.bat (rs s) (Rw.lft (rs s) L H) : Nat) (Rw.bdel (rs s) (Rw.lft (rs s) L H) : Nat) (runesBytes (Rw.bins (rs s) (Rw.lft (rs s) L H))) ((if key = 120 then Rw.rst (Rw.lft (rs s) L H) L else L : Nat) : Int) (runesBytes (Rw.tkn (rs s) L H)) false, .int .i64 0]))) :=
    ⟨fun h => ⟨fun _ => rfl, fun h' => by omega⟩, fun h => ⟨fun h' => by omega, fun _ => rfl⟩⟩
  generalize CutV s key L H = P at *
  clear hb0 hT hm hmx hsm hxr hkey
  have cBe := fun b cap W hW => rbegin_any (some ⟨b, 0, none⟩) (rs s).length cap (rs s) k W hW hk (by omega)
  have cEn := fun b cap W hW => rend_any (some ⟨b, 0, none⟩) (rs s).length cap (rs s) k W hW hk (by omega)
  generalize Rw.beg (rs s) k = B at *
  generalize Rw.en (rs s) k = En at *
  generalize rs s = t at *
  generalize ((Rw.bat t (Rw.lft t L H) : Nat) : Int) = PA at *
  generalize ((Rw.bdel t (Rw.lft t L H) : Nat) : Int) = PD at *
  generalize runesBytes (Rw.bins t (Rw.lft t L H)) = PI at *
  generalize runesBytes (Rw.lft t L H) = NX at *
  generalize hTK : runesBytes (Rw.tkn t L H) = TK at *
  generalize hNL : Rw.lft t L H = nx at *
  have HTK := Lib.hid hTK
  have HCM := Lib.hid cM
  have HCR := Lib.hid cR
  have HCU := Lib.hid cU
  clear hTK cM cR cU hNL hll
  obtain ⟨g, hg⟩ : ∃ g, w.heap.size = g := ⟨_, rfl⟩
  have HGS := Lib.hid hg
  rw [hg] at HG0
  clear hg
  obtain ⟨M, hM⟩ : ∃ M : Nat, M = min (k + c) En := ⟨_, rfl⟩
  have hm1 : min (En : Int) ((k : Int) + (c : Int)) = (M : Int) := by omega
  have hm2 : min En (k + c) = M := by omega
  have HM := Lib.hid hM
  clear hM
  have hw1 : IntKind.i64.wrap ((k : Int) + (c : Int)) = (k : Int) + (c : Int) := IntWalk.i64_in _ ⟨by omega, by omega⟩
  have hw2 : IntKind.i64.wrap ((k : Int) - (c : Int)) = (k : Int) - (c : Int) := IntWalk.i64_in _ ⟨by omega, by omega⟩
  go_enter Tryd.func6, Tryd.ntmps6
  go_upto_region 1 with fail
  simp only [HGS.out]
  generalize w.alloc zeroS = W0 at *
  obtain ⟨cap, w1, hcap, hcv, hk1, hlt1, hR1⟩ := cV W0
  have hI1 : RsI W0.heap.size g t w1 := ⟨HTA.out.kept hk1 id id, hR1, (hk1.block _ (heap_lt HG0.out) id).trans HG0.out⟩
  obtain ⟨b, hb⟩ : ∃ b, W0.heap.size = b := ⟨_, rfl⟩
  rw [hb] at hcv hI1
  have HI1 := Lib.hid hI1
  have HK1 := Lib.hid (HKA.out.trans hk1)
  have cB1 := cBe b cap w1 hI1.rn
  have cE1 := cEn b cap w1 hI1.rn
  clear hR1 hI1 hk1 cV cBe cEn hb
  go_upto_region 4 with (first
    | (go_at_call 16; refine cB1.mono ?_; rintro e w2 ⟨rfl, hw⟩; have hw3 := hw.symm; subst hw3)
    | (go_at_call 17; refine cE1.mono ?_; rintro e w2 ⟨rfl, hw⟩; have hw3 := hw.symm; subst hw3))
  clear hcv cB1 cE1 hm1 hm2 hw1
  obtain ⟨⟨z0, z1, z2, z3, z4, z5⟩, y0, y1, y2, y3, y4, y5⟩ := chg_facts HI1.out.chg
  rcases hcs with ⟨rfl, hL, hH⟩ | ⟨rfl, hL, hH⟩
  · obtain rfl : H = M := hH.trans HM.out.symm
    subst hL
    clear hH hw2
    go_upto_region 10 with fail
    by_cases heq : L = H
    · subst heq
      go_wp2
      refine bodyPost_ret (res_chg rfl _ _ g _ _ _ _ _ _ (0, 0) rfl (chg_six HI1.out.chg _ _ _ _ _ _)) rfl ⟨⟨.tuple #[chgV 0 0 ⟨#[]⟩ 0 ⟨#[]⟩ false, .int .i64 6], rfl, HCV.out.1 (by trivial)⟩, ?_⟩
      exact HK1.out.fresh (Kept.six (Kept.refl (fun q => q = g) w1) rfl _ _ _ _ _ _) (fun b hb e => by have := HGS.out; omega)
    · have hlt : L < H := by omega
      have hne : ((L : Int) == (H : Int)) = false := by rw [beq_eq_false_iff_ne]; omega
      have hne' : ((L : Nat) == (H : Nat)) = false := by rw [beq_eq_false_iff_ne]; omega
      clear heq z0 z1 z2 z3 z4 z5 y0 y1 y2 y3 y4 y5
      go_upto_region 12 with fail
      clear hne hne'
      have hcA := fun u => run_cut_h u (some ⟨b, 0, none⟩) t.length cap L (L : Int) rfl (by omega)
      have hcC := fun u => run_cut_l u (some ⟨b, 0, none⟩) t.length cap H (H : Int) rfl hle2 hcap
      have hRA : Rn w1 (cutB (some ⟨b, 0, none⟩) cap 0) L (t.take L) := by rw [cutB_zero]; exact HI1.out.rn.take (by omega)
      have hRC : Rn w1 (cutB (some ⟨b, 0, none⟩) cap H) (t.length - H) (t.drop H) := HI1.out.rn.drop hle2 hcap
      generalize cutB (some ⟨b, 0, none⟩) cap 0 = CA at *
      generalize cutB (some ⟨b, 0, none⟩) cap H = CC at *
      have htA : ∀ r, (convert 30 9 (.slice CA L cap)).run Tryd.prog (w1.drewN r) = .ok (.string (runesBytes (t.take L))) (w1.drewN r) := fun r => run_txt (w := w1.drewN r) hRA
      have htC : ∀ r, (convert 30 9 (.slice CC (t.length - H) (cap - H))).run Tryd.prog (w1.drewN r) = .ok (.string (runesBytes (t.drop H))) (w1.drewN r) := fun r => run_txt (w := w1.drewN r) hRC
      generalize runesBytes (t.take L) = SA at *
      generalize runesBytes (t.drop H) = SC at *
      have ad : ∀ u, (Op.stringOp .add SA SC).run Tryd.prog u = .ok (.string NX) u := fun u => by rw [← HTX.out]; exact run_string_add_sum u SA SC (by omega)
      clear hRA hRC
      go_cut [17] from 60 to 68 (fun v wx => v = .string NX ∧ ∃ q, wx = w1.drewN q)
      case first =>
        go_quiet (fail)
        go_wp2_with fail
        go_meet
        exact ⟨rfl, _, by first | rfl | rw [drewN2]⟩
      case rest =>
        obtain ⟨rfl, q2, rfl⟩ := hcut
        clear htA htC hcA hcC ad
        have hIq := HI1.out.drewN q2
        have hKq : Kept (fun _ => False) w (w1.drewN q2) := HK1.out.drewN q2
        generalize w1.drewN q2 = wq at *
        obtain ⟨cp2, w3, hcp2, hcu, hk3, _, hR3⟩ := HCU.out wq
        obtain ⟨yy, hyy⟩ : ∃ yy, wq.heap.size = yy := ⟨_, rfl⟩
        rw [hyy] at hcu hR3
        have HI3 := Lib.hid (hIq.kept hk3)
        have HK3 := Lib.hid (hKq.trans hk3)
        have hcR := HCR.out yy cp2 w3 hR3
        clear hyy hk3 hR3 hKq hIq
        go_upto_region 17 with (go_at_call 18; refine hcR.mono ?_; rintro e w4 ⟨rfl, hw⟩; have hw3 := hw.symm; subst hw3)
        clear hcu hcR
        go_upto_region 18 with (go_at_call 19; refine (HCM.out w3 HI3.out.tabs _).mono ?_; rintro e w4 ⟨rfl, hk4⟩; have HI4 := Lib.hid (HI3.out.kept hk4); have HK4 := Lib.hid (HK3.out.trans hk4); clear hk4)
        have HGY : Hid (g < w4.heap.size) := heap_lt HI4.out.chg
        have HY5 := Lib.hid (heap_alloc_new w4 (chgO PA PD PI (Rw.rst nx L : Nat) ⟨#[]⟩ false))
        have HI5 := Lib.hid (HI4.out.kept ((Kept.refl (fun _ => False) w4).alloc (chgO PA PD PI (Rw.rst nx L : Nat) ⟨#[]⟩ false)))
        have HK5 := Lib.hid (HK4.out.alloc (chgO PA PD PI (Rw.rst nx L : Nat) ⟨#[]⟩ false))
        generalize w4.alloc (chgO PA PD PI (Rw.rst nx L : Nat) ⟨#[]⟩ false) = w5 at *
        generalize w4.heap.size = y at *
        have hRB : Rn w5 (cutB (some ⟨b, 0, none⟩) cap L) (H - L) (Rw.tkn t L H) := HI5.out.rn.cut hle1 hle2 hcap
        have hcB := fun u => run_cut_lh u (some ⟨b, 0, none⟩) t.length cap L H (L : Int) (H : Int) rfl rfl hle1 (by omega)
        have htB := run_txt (c := cap - L) hRB
        rw [HTK.out] at htB
        have h1i : (L : Int) ≤ H := by omega
        obtain ⟨⟨c0, c1, c2, c3, c4, c5⟩, k0, k1, k2, k3, k4, k5⟩ := chg_facts HY5.out
        obtain ⟨⟨d0, d1, d2, d3, d4, d5⟩, e0, e1, e2, e3, e4, e5⟩ := chg_facts HI5.out.chg
        have hne1 : ¬ g = y := by have := HGY.out; omega
        have hne2 : ¬ y = g := by have := HGY.out; omega
        have HNE := Lib.hid hne1
        clear hRB
        go_wp2
        refine bodyPost_ret (res_chg rfl _ _ g _ _ _ _ _ _ (0, 0) rfl (chg_six ((heap_far HNE.out _).trans HI5.out.chg) _ _ _ _ _ _)) rfl ⟨⟨.tuple #[chgV PA PD PI (Rw.rst nx L : Nat) TK false, .int .i64 0], rfl, HCV.out.2 (by first | exact hlt | trivial)⟩, ?_⟩
        exact HK5.out.fresh (Kept.six ((Kept.refl (fun q => q = y ∨ q = g) w5).setCell (p := ⟨y, 4, none⟩) (.inl rfl) _) (.inr rfl) _ _ _ _ _ _) (fun b hb e => by have := HGS.out; have := HGY.out; omega)
  · have hx1 : max (B : Int) ((k : Int) - (c : Int)) = (L : Int) := by omega
    subst hH
    clear hL
    go_upto_region 10 with fail
    clear hx1 hw2
    by_cases heq : L = H
    · subst heq
      go_wp2
      refine bodyPost_ret (res_chg rfl _ _ g _ _ _ _ _ _ (0, 0) rfl (chg_six HI1.out.chg _ _ _ _ _ _)) rfl ⟨⟨.tuple #[chgV 0 0 ⟨#[]⟩ 0 ⟨#[]⟩ false, .int .i64 6], rfl, HCV.out.1 (by trivial)⟩, ?_⟩
      exact HK1.out.fresh (Kept.six (Kept.refl (fun q => q = g) w1) rfl _ _ _ _ _ _) (fun b hb e => by have := HGS.out; omega)
    · have hlt : L < H := by omega
      have hne : ((L : Int) == (H : Int)) = false := by rw [beq_eq_false_iff_ne]; omega
      have hne' : ((L : Nat) == (H : Nat)) = false := by rw [beq_eq_false_iff_ne]; omega
      clear heq z0 z1 z2 z3 z4 z5 y0 y1 y2 y3 y4 y5
      go_upto_region 12 with fail
      clear hne hne'
      have hcA := fun u => run_cut_h u (some ⟨b, 0, none⟩) t.length cap L (L : Int) rfl (by omega)
      have hcC := fun u => run_cut_l u (some ⟨b, 0, none⟩) t.length cap H (H : Int) rfl hle2 hcap
      have hRA : Rn w1 (cutB (some ⟨b, 0, none⟩) cap 0) L (t.take L) := by rw [cutB_zero]; exact HI1.out.rn.take (by omega)
      have hRC : Rn w1 (cutB (some ⟨b, 0, none⟩) cap H) (t.length - H) (t.drop H) := HI1.out.rn.drop hle2 hcap
      generalize cutB (some ⟨b, 0, none⟩) cap 0 = CA at *
      generalize cutB (some ⟨b, 0, none⟩) cap H = CC at *
      have htA : ∀ r, (convert 30 9 (.slice CA L cap)).run Tryd.prog (w1.drewN r) = .ok (.string (runesBytes (t.take L))) (w1.drewN r) := fun r => run_txt (w := w1.drewN r) hRA
      have htC : ∀ r, (convert 30 9 (.slice CC (t.length - H) (cap - H))).run Tryd.prog (w1.drewN r) = .ok (.string (runesBytes (t.drop H))) (w1.drewN r) := fun r => run_txt (w := w1.drewN r) hRC
      generalize runesBytes (t.take L) = SA at *
      generalize runesBytes (t.drop H) = SC at *
      have ad : ∀ u, (Op.stringOp .add SA SC).run Tryd.prog u = .ok (.string NX) u := fun u => by rw [← HTX.out]; exact run_string_add_sum u SA SC (by omega)
      clear hRA hRC
      go_cut [17] from 60 to 68 (fun v wx => v = .string NX ∧ ∃ q, wx = w1.drewN q)
      case first =>
        go_quiet (fail)
        go_wp2_with fail
        go_meet
        exact ⟨rfl, _, by first | rfl | rw [drewN2]⟩
      case rest =>
        obtain ⟨rfl, q2, rfl⟩ := hcut
        clear htA htC hcA hcC ad
        have hIq := HI1.out.drewN q2
        have hKq : Kept (fun _ => False) w (w1.drewN q2) := HK1.out.drewN q2
        generalize w1.drewN q2 = wq at *
        have HI3 := Lib.hid hIq
        have HK3 := Lib.hid hKq
        clear hKq hIq
        obtain ⟨w3, hw3⟩ : ∃ w3, w3 = wq := ⟨_, rfl⟩
        subst hw3
        go_upto_region 17 with fail
        go_upto_region 18 with (go_at_call 19; refine (HCM.out w3 HI3.out.tabs _).mono ?_; rintro e w4 ⟨rfl, hk4⟩; have HI4 := Lib.hid (HI3.out.kept hk4); have HK4 := Lib.hid (HK3.out.trans hk4); clear hk4)
        have HGY : Hid (g < w4.heap.size) := heap_lt HI4.out.chg
        have HY5 := Lib.hid (heap_alloc_new w4 (chgO PA PD PI (L : Nat) ⟨#[]⟩ false))
        have HI5 := Lib.hid (HI4.out.kept ((Kept.refl (fun _ => False) w4).alloc (chgO PA PD PI (L : Nat) ⟨#[]⟩ false)))
        have HK5 := Lib.hid (HK4.out.alloc (chgO PA PD PI (L : Nat) ⟨#[]⟩ false))
        generalize w4.alloc (chgO PA PD PI (L : Nat) ⟨#[]⟩ false) = w5 at *
        generalize w4.heap.size = y at *
        have hRB : Rn w5 (cutB (some ⟨b, 0, none⟩) cap L) (H - L) (Rw.tkn t L H) := HI5.out.rn.cut hle1 hle2 hcap
        have hcB := fun u => run_cut_lh u (some ⟨b, 0, none⟩) t.length cap L H (L : Int) (H : Int) rfl rfl hle1 (by omega)
        have htB := run_txt (c := cap - L) hRB
        rw [HTK.out] at htB
        have h1i : (L : Int) ≤ H := by omega
        obtain ⟨⟨c0, c1, c2, c3, c4, c5⟩, k0, k1, k2, k3, k4, k5⟩ := chg_facts HY5.out
        obtain ⟨⟨d0, d1, d2, d3, d4, d5⟩, e0, e1, e2, e3, e4, e5⟩ := chg_facts HI5.out.chg
        have hne1 : ¬ g = y := by have := HGY.out; omega
        have hne2 : ¬ y = g := by have := HGY.out; omega
        have HNE := Lib.hid hne1
        clear hRB
        go_wp2
        refine bodyPost_ret (res_chg rfl _ _ g _ _ _ _ _ _ (0, 0) rfl (chg_six ((heap_far HNE.out _).trans HI5.out.chg) _ _ _ _ _ _)) rfl ⟨⟨.tuple #[chgV PA PD PI (L : Nat) TK false, .int .i64 0], rfl, HCV.out.2 (by first | exact hlt | trivial)⟩, ?_⟩
        exact HK5.out.fresh (Kept.six ((Kept.refl (fun q => q = y ∨ q = g) w5).setCell (p := ⟨y, 4, none⟩) (.inl rfl) _) (.inr rfl) _ _ _ _ _ _) (fun b hb e => by have := HGS.out; have := HGY.out; omega)
end Go.Proofs.YtilkogohiealhaaDoor
namespace Go.Proofs.YtilkogohiealhaaDoor
open Go Go.RowKit

set_option maxRecDepth 100000 in
set_option maxHeartbeats 1000000 in
theorem turned_any (r key : Int) (w : World) (h : 0 ≤ r ∧ r ≤ 1114111) :
    Calls Tryd.prog 20 #[.int .i32 r, .int .i64 key] w fun e w' => e = .returned (.int .i32 (Rw.trn key r)) ∧ w' = w := by
  obtain ⟨V, hV⟩ : ∃ V, Rw.trn key r = V := ⟨_, rfl⟩
  rw [hV]
  unfold Rw.trn at hV
  have hz : r < 65 ∨ (65 ≤ r ∧ r ≤ 90) ∨ (91 ≤ r ∧ r ≤ 96) ∨ (97 ≤ r ∧ r ≤ 122) ∨ 123 ≤ r := by omega
  rcases hz with z | z | z | z | z
  · have d1 : decide (97 ≤ r) = false := by simp; omega
    have d2 : decide (r ≤ 122) = true := by simp; omega
    have d3 : decide (65 ≤ r) = false := by simp; omega
    have d4 : decide (r ≤ 90) = true := by simp; omega
    have e : V = r := by rw [← hV]; rw [if_neg (by omega), if_neg (by omega)]
    clear hV z
    go_enter Tryd.func20, Tryd.ntmps20
    go_wp2
    go_ret
    exact ⟨by rw [e]; first | rfl | (congr 2; omega), rfl⟩
  · have d1 : decide (97 ≤ r) = false := by simp; omega
    have d2 : decide (r ≤ 122) = true := by simp; omega
    have d3 : decide (65 ≤ r) = true := by simp; omega
    have d4 : decide (r ≤ 90) = true := by simp; omega
    by_cases k : key = 85
    · subst k
      have e : V = r := by rw [← hV]; rw [if_neg (by omega), if_neg (by omega)]
      clear hV z
      go_enter Tryd.func20, Tryd.ntmps20
      go_wp2
      go_ret
      exact ⟨by rw [e]; first | rfl | (congr 2; omega), rfl⟩
    · have q1 : (key == 85) = false := by rw [beq_eq_false_iff_ne]; exact k
      have q2 : (key != 85) = true := by simp [k]
      have e : V = r + 32 := by rw [← hV]; rw [if_pos ⟨z.1, z.2, k⟩]
      clear hV z k
      go_enter Tryd.func20, Tryd.ntmps20
      go_wp2
      go_ret
      exact ⟨by rw [e, show r + 32 = r + 97 - 65 by omega]; rfl, rfl⟩
  · have d1 : decide (97 ≤ r) = false := by simp; omega
    have d2 : decide (r ≤ 122) = true := by simp; omega
    have d3 : decide (65 ≤ r) = true := by simp; omega
    have d4 : decide (r ≤ 90) = false := by simp; omega
    have e : V = r := by rw [← hV]; rw [if_neg (by omega), if_neg (by omega)]
    clear hV z
    go_enter Tryd.func20, Tryd.ntmps20
    go_wp2
    go_ret
    exact ⟨by rw [e]; first | rfl | (congr 2; omega), rfl⟩
  · have d1 : decide (97 ≤ r) = true := by simp; omega
    have d2 : decide (r ≤ 122) = true := by simp; omega
    have d3 : decide (65 ≤ r) = true := by simp; omega
    have d4 : decide (r ≤ 90) = false := by simp; omega
    by_cases k : key = 117
    · subst k
      have e : V = r := by rw [← hV]; rw [if_neg (by omega), if_neg (by omega)]
      clear hV z
      go_enter Tryd.func20, Tryd.ntmps20
      go_wp2
      go_ret
      exact ⟨by rw [e]; first | rfl | (congr 2; omega), rfl⟩
    · have q1 : (key == 117) = false := by rw [beq_eq_false_iff_ne]; exact k
      have q2 : (key != 117) = true := by simp [k]
      have e : V = r - 32 := by rw [← hV]; rw [if_neg (by omega), if_pos ⟨z.1, z.2, k⟩]
      clear hV z k
      go_enter Tryd.func20, Tryd.ntmps20
      go_wp2
      go_ret
      exact ⟨by rw [e, show r - 32 = r - 97 + 65 by omega]; rfl, rfl⟩
  · have d1 : decide (97 ≤ r) = true := by simp; omega
    have d2 : decide (r ≤ 122) = false := by simp; omega
    have d3 : decide (65 ≤ r) = true := by simp; omega
    have d4 : decide (r ≤ 90) = false := by simp; omega
    have e : V = r := by rw [← hV]; rw [if_neg (by omega), if_neg (by omega)]
    clear hV z
    go_enter Tryd.func20, Tryd.ntmps20
    go_wp2
    go_ret
    exact ⟨by rw [e]; first | rfl | (congr 2; omega), rfl⟩
end Go.Proofs.YtilkogohiealhaaDoor
namespace Go.Proofs.YtilkogohiealhaaDoor
open Go Go.RowKit

/-- The change to a text of runes, if it may be. -/
def MadeV (s : ByteArray) (u : List Int) (at' : Int) (v : Value) : Prop :=
  (mayB (runesBytes u) = true → v = chgT (Rw.bat (rs s) u : Nat) (Rw.bdel (rs s) u : Nat) (runesBytes (Rw.bins (rs s) u)) at' ⟨#[]⟩ 0) ∧
  (mayB (runesBytes u) = false → v = chgT 0 0 ⟨#[]⟩ 0 ⟨#[]⟩ 4)
theorem Tabs.two {w : World} (h : Tabs w) : 1 < w.heap.size := by
  have c1 : w.cell? ⟨1, 0, none⟩ = some (.int .u8 (Lib.accLo 0)) := (h.2 0 (by omega)).1
  exact World.block_lt_of_cell? w _ c1
theorem csd_step' {t : List Int} {lo i : Nat} {key x : Int} (h1 : lo ≤ i) (h2 : i < t.length) (hx : t[i]? = some x) : (Rw.csd t lo i key).set i (Rw.trn key x) = Rw.csd t lo (i + 1) key := by
  apply List.ext_getElem?
  intro j
  rw [Rw.csd_at (by omega) (by omega)]
  by_cases e : i = j
  · subst e
    rw [List.getElem?_set_self (by rw [Rw.csd_len h1 (by omega)]; exact h2), if_pos (by omega), hx]
    rfl
  · rw [List.getElem?_set_ne e, Rw.csd_at h1 (by omega)]
    by_cases h : lo ≤ j ∧ j < i
    · rw [if_pos h, if_pos (by omega)]
    · rw [if_neg h, if_neg (by omega)]
theorem csd_lo' {t : List Int} {lo : Nat} {key : Int} (h : lo ≤ t.length) : Rw.csd t lo lo key = t := by
  apply List.ext_getElem?
  intro j
  rw [Rw.csd_at (Nat.le_refl _) h, if_neg (by omega)]
theorem csd_get' {t : List Int} {lo i : Nat} {key : Int} (h1 : lo ≤ i) (h2 : i ≤ t.length) : (Rw.csd t lo i key)[i]? = t[i]? := by
  rw [Rw.csd_at h1 h2, if_neg (by omega)]
/-- What r makes. -/
def TakeR (s : ByteArray) (k c : Nat) (r : Int) (v : Value) : Prop :=
  (Rw.en (rs s) k < k + c → v = chgT 0 0 ⟨#[]⟩ 0 ⟨#[]⟩ 6) ∧ (k + c ≤ Rw.en (rs s) k → MadeV s (Rw.rep (rs s) k (k + c) r) (((k + c : Nat) : Int) - 1) v)
/-- What ~ makes, up to H. -/
def TakeT (s : ByteArray) (k H : Nat) (v : Value) : Prop :=
  (k = H → v = chgT 0 0 ⟨#[]⟩ 0 ⟨#[]⟩ 6) ∧ (k < H → MadeV s (Rw.csd (rs s) k H 126) (Rw.rst (Rw.csd (rs s) k H 126) H : Nat) v)
set_option maxRecDepth 100000 in
theorem rmade_no (s x : ByteArray) (at' : Int) (w : World) (hx : x.size ≤ 140737488351232) (hT : Tabs w) (hm : mayB x = false) :
    Calls Tryd.prog 19 #[.string s, .string x, .int .i64 at'] w fun e w' => e = .returned (.tuple #[chgV 0 0 ⟨#[]⟩ 0 ⟨#[]⟩ false, .int .i64 4]) ∧ Kept (fun _ => False) w w' := by
  have hka : Kept (fun _ => False) w (w.alloc zeroS) := (Kept.refl _ w).alloc _
  have HG0 : Hid ((w.alloc zeroS).heap[w.heap.size]? = some zeroS) := heap_alloc_new w _
  have cM := rmay_any x _ hx (hT.kept hka id id)
  rw [hm] at cM
  have HKA := Lib.hid hka
  clear hka hT hm
  obtain ⟨g, hg⟩ : ∃ g, w.heap.size = g := ⟨_, rfl⟩
  have HGS := Lib.hid hg
  go_enter Tryd.func19, Tryd.ntmps19
  go_upto_region 1 with fail
  simp only [hg] at HG0 ⊢
  clear hg
  go_wp2_with (go_at_call 5; refine cM.mono ?_; rintro e w1 ⟨rfl, hk1⟩; have HK1 := Lib.hid (HKA.out.trans hk1); have HG1 := Lib.hid ((hk1.block _ (heap_lt HG0.out) id).trans HG0.out); obtain ⟨⟨c0, c1, c2, c3, c4, c5⟩, k0, k1, k2, k3, k4, k5⟩ := chg_facts HG1.out; clear hk1 cM)
  refine bodyPost_ret (res_chg rfl _ _ g _ _ _ _ _ _ (0, 0) rfl (chg_six HG1.out _ _ _ _ _ _)) rfl ⟨rfl, ?_⟩
  exact HK1.out.fresh (Kept.six (Kept.refl (fun q => q = g) w1) rfl _ _ _ _ _ _) (fun b hb e => by have := HGS.out; omega)
theorem rmade_any (s : ByteArray) (u : List Int) (at' : Nat) (w : World) (hs : s.size ≤ 4000) (hT : Tabs w) (hv : Vld u) (hn : u.length ≤ 100000) :
    Calls Tryd.prog 19 #[.string s, .string (runesBytes u), .int .i64 at'] w fun e w' => (∃ (a d : Int) (p : ByteArray) (x : Int) (tk : ByteArray) (E : Int), e = .returned (chgT a d p x tk E) ∧ MadeV s u at' (chgT a d p x tk E)) ∧ Kept (fun _ => False) w w' := by
  by_cases h : mayB (runesBytes u) = true
  · have := rmade_yes s (runesBytes u) at' w hs hT h
    rw [rs_txt hv] at this
    exact this.mono fun e w' he => ⟨⟨_, _, _, _, _, _, he.1, ⟨fun _ => rfl, fun h' => by rw [h] at h'; cases h'⟩⟩, he.2⟩
  · have h' : mayB (runesBytes u) = false := by simpa using h
    exact (rmade_no s (runesBytes u) at' w (by have := txt_size4 u; omega) hT h').mono fun e w' he => ⟨⟨_, _, _, _, _, _, he.1, ⟨fun h'' => (by rw [h'] at h''; cases h''), fun _ => rfl⟩⟩, he.2⟩
theorem madeV_case (s : ByteArray) (u : List Int) (at' : Int) : (∃ E : Int, (E != 0) = true ∧ ∀ v, MadeV s u at' v → v = chgT 0 0 ⟨#[]⟩ 0 ⟨#[]⟩ E) ∨ (∃ (a d : Int) (p : ByteArray) (x : Int) (tk : ByteArray), ∀ v, MadeV s u at' v → v = chgT a d p x tk 0) := by
  by_cases h : mayB (runesBytes u) = true
  · exact .inr ⟨_, _, _, _, _, fun v hv => hv.1 h⟩
  · exact .inl ⟨4, rfl, fun v hv => hv.2 (by simpa using h)⟩
set_option maxRecDepth 100000 in
theorem sapply_any (s : ByteArray) (pa pd : Nat) (ins : ByteArray) (w : World) (hs : s.size ≤ 6000) (hp : pa + pd ≤ (rs s).length) (hi : ins.size ≤ 100000) :
    Calls Tryd.prog 7 #[.string s, patV pa pd ins] w fun e w' => e = .returned (.string (runesBytes ((rs s).take pa) ++ ins ++ runesBytes ((rs s).drop (pa + pd)))) ∧ Kept (fun _ => False) w w' := by
  have hl := rs_len s
  have hka : Kept (fun _ => False) w (w.alloc (patO pa pd ins)) := (Kept.refl _ w).alloc _
  have HG0 : Hid ((w.alloc (patO pa pd ins)).heap[w.heap.size]? = some (patO pa pd ins)) := heap_alloc_new w _
  obtain ⟨cap, w2, hcap, hcv, hk2, hlt, hR⟩ := conv_rs s (w.alloc (patO pa pd ins)) (by omega)
  have hz : (w.alloc (patO pa pd ins)).heap.size = w.heap.size + 1 := by simp
  rw [hz] at hcv hR
  obtain ⟨f0, f1, f2⟩ := pat_facts' ((hk2.block _ (heap_lt HG0.out) id).trans HG0.out)
  have hsA : (runesBytes ((rs s).take pa)).size ≤ 100000 := by have := txt_size4 ((rs s).take pa); rw [List.length_take] at this; omega
  have hsC : (runesBytes ((rs s).drop (pa + pd))).size ≤ 100000 := by have := txt_size4 ((rs s).drop (pa + pd)); rw [List.length_drop] at this; omega
  generalize rs s = t at *
  have hcA := fun u => run_cut_h u (some ⟨w.heap.size + 1, 0, none⟩) t.length cap pa (pa : Int) rfl (by omega)
  have hcC := fun u => run_cut_l u (some ⟨w.heap.size + 1, 0, none⟩) t.length cap (pa + pd) ((pa : Int) + (pd : Int)) (by omega) hp hcap
  have hRA : Rn w2 (cutB (some ⟨w.heap.size + 1, 0, none⟩) cap 0) pa (t.take pa) := by rw [cutB_zero]; exact hR.take (by omega)
  have hRC : Rn w2 (cutB (some ⟨w.heap.size + 1, 0, none⟩) cap (pa + pd)) (t.length - (pa + pd)) (t.drop (pa + pd)) := hR.drop hp hcap
  generalize cutB (some ⟨w.heap.size + 1, 0, none⟩) cap 0 = CA at *
  generalize cutB (some ⟨w.heap.size + 1, 0, none⟩) cap (pa + pd) = CC at *
  have htA : ∀ r, (convert 30 9 (.slice CA pa cap)).run Tryd.prog (w2.drewN r) = .ok (.string (runesBytes (t.take pa))) (w2.drewN r) := fun r => run_txt (w := w2.drewN r) hRA
  have htC : ∀ r, (convert 30 9 (.slice CC (t.length - (pa + pd)) (cap - (pa + pd)))).run Tryd.prog (w2.drewN r) = .ok (.string (runesBytes (t.drop (pa + pd)))) (w2.drewN r) := fun r => run_txt (w := w2.drewN r) hRC
  generalize runesBytes (t.take pa) = SA at *
  generalize runesBytes (t.drop (pa + pd)) = SC at *
  have ad1 : ∀ u, (Op.stringOp .add SA ins).run Tryd.prog u = .ok (.string (SA ++ ins)) u := fun u => run_string_add_sum u SA ins (by omega)
  have ad2 : ∀ u, (Op.stringOp .add (SA ++ ins) SC).run Tryd.prog u = .ok (.string (SA ++ ins ++ SC)) u := fun u => run_string_add_sum u (SA ++ ins) SC (by rw [ByteArray.size_append]; omega)
  have hw1 : IntKind.i64.wrap ((pa : Int) + (pd : Int)) = (pa : Int) + (pd : Int) := IntWalk.i64_in _ ⟨by omega, by omega⟩
  have HK2 := Lib.hid (hka.trans hk2)
  clear hk2 hka hR hRA hRC
  go_enter Tryd.func7, Tryd.ntmps7
  go_upto_region 2 with fail
  go_quiet (fail)
  go_wp2
  go_ret
  exact ⟨rfl, HK2.out.drewN _⟩
/-- The text that wakes. -/
def abS : ByteArray := ⟨#[97, 98]⟩
theorem abS_rs : rs abS = [97, 98] := by decide
theorem abS_may : mayB abS = true := by decide
theorem swake_vals {v : Value} (h : CutV abS 120 (cutS (rs abS) 120 0 1).1 (cutS (rs abS) 120 0 1).2 v) : v = chgT 0 1 ⟨#[]⟩ 0 ⟨#[97]⟩ 0 := by
  rw [abS_rs] at h
  have e0 : (cutS [97, 98] 120 0 1) = (0, 1) := by decide
  rw [e0] at h
  rw [h.2 (by decide), abS_rs]
  have e1 : Rw.bat [97, 98] (Rw.lft [97, 98] 0 1) = 0 := by decide
  have e2 : Rw.bdel [97, 98] (Rw.lft [97, 98] 0 1) = 1 := by decide
  have e3 : runesBytes (Rw.bins [97, 98] (Rw.lft [97, 98] 0 1)) = ⟨#[]⟩ := by decide
  have e4 : runesBytes (Rw.tkn [97, 98] 0 1) = ⟨#[97]⟩ := by decide
  have e5 : Rw.rst (Rw.lft [97, 98] 0 1) 0 = 0 := by decide
  rw [e1, e2, e3, e4, if_pos rfl, e5]
  rfl
theorem swake_app : runesBytes ((rs abS).take 0) ++ (⟨#[]⟩ : ByteArray) ++ runesBytes ((rs abS).drop (0 + 1)) = ⟨#[98]⟩ := by
  rw [abS_rs]
  decide
end Go.Proofs.YtilkogohiealhaaDoor
