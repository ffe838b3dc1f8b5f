/-
  ELEMENTS in memory: a slice of them; what a call owns of them.
  TEXTS MADE OF RUNES: what they read as, and whether they may be; slices of runes, cut, and made texts.
  ELEMENTS: those of a first text, of the reference and of the program; their text; the same.
  ELEMENTS: those of a first text, of the program; the reference's text of elements, and which may be.
-/
import Derived.Test.YthkohjijppbliaaDoorLMa
import Derived.Laws.AppendOwn
import Derived.Laws.AppendOwnNone
import Derived.Laws.MakeOwn
import Derived.Laws.OwnMore
import Derived.Maps.AppendAt
import Derived.OwnWalk
import Derived.Test.YthkohjijppbliaaDoorLMb
import Derived.Laws.Cover4
import Derived.Laws.Slices
import Derived.Deep.Slices
import Derived.Test.YthkohjijppbliaaDoorShelf2
import Derived.Shelf.Utf8.RuneCount
import Derived.BigQuiet
import Derived.Laws.Rows
set_option linter.unusedVariables false
namespace Go.Proofs.YthkohjijppbliaaDoor
open Go Go.RowKit

/-- An element. -/
structure ElemS where
  t : Int
  si : Int
  r : Int
  d : Bool
deriving DecidableEq
instance : Inhabited ElemS := ⟨⟨0, 0, 0, false⟩⟩
theorem info_elem : (Tryd.prog.info? 71).map (fun i => (i.zero, i.size, i.bytes)) = some (some (.agg #[.int .i64 0, .int .i64 0, .int .i64 0, .bool false]), 4, 32) := by kernel_rfl
def ElemS.vs (e : ElemS) : List Value := [.int .i64 e.t, .int .i64 e.si, .int .i64 e.r, .bool e.d]
abbrev elemV (e : ElemS) : Value := .agg #[.int .i64 e.t, .int .i64 e.si, .int .i64 e.r, .bool e.d]
abbrev elemO (e : ElemS) : Obj := .cells #[.int .i64 e.t, .int .i64 e.si, .int .i64 e.r, .bool e.d] 71
/-- An element's cells. -/
structure El4 (w : World) (ad : Addr) (e : ElemS) : Prop where
  c0 : w.cell? ad = some (.int .i64 e.t)
  c1 : w.cell? ⟨ad.block, ad.off + 1, none⟩ = some (.int .i64 e.si)
  c2 : w.cell? ⟨ad.block, ad.off + 2, none⟩ = some (.int .i64 e.r)
  c3 : w.cell? ⟨ad.block, ad.off + 3, none⟩ = some (.bool e.d)
theorem El4.kept {S : Nat → Prop} {w w' : World} {ad : Addr} {e : ElemS} (h : El4 w ad e) (hk : Kept S w w') (hs : ¬ S ad.block) : El4 w' ad e := ⟨cell_kept hk h.c0 hs, cell_kept hk h.c1 hs, cell_kept hk h.c2 hs, cell_kept hk h.c3 hs⟩
theorem El4.cs {w : World} {g : Nat} {e : ElemS} (h : El4 w ⟨g, 0, none⟩ e) : w.cell? ⟨g, 0, none⟩ = some (.int .i64 e.t) ∧ w.cell? ⟨g, 1, none⟩ = some (.int .i64 e.si) ∧ w.cell? ⟨g, 2, none⟩ = some (.int .i64 e.r) ∧ w.cell? ⟨g, 3, none⟩ = some (.bool e.d) := ⟨h.c0, h.c1, h.c2, h.c3⟩
theorem el4_new {w : World} {e : ElemS} : El4 (w.alloc (elemO e)) ⟨w.heap.size, 0, none⟩ e := ⟨cell_of_row _ _ _ _ _ _ (heap_alloc_new w _), cell_of_row _ _ _ _ _ _ (heap_alloc_new w _), cell_of_row _ _ _ _ _ _ (heap_alloc_new w _), cell_of_row _ _ _ _ _ _ (heap_alloc_new w _)⟩
/-- A slice of elements. -/
structure Eg (w : World) (A : Option Addr) (n : Nat) (L : List ElemS) : Prop where
  len : L.length = n
  at' : ∀ k e, L[k]? = some e → ∃ ad, A = some ad ∧ El4 w (ad.add (k * 4)) e
theorem Eg.kept {S : Nat → Prop} {w w' : World} {A : Option Addr} {n : Nat} {L : List ElemS} (h : Eg w A n L) (hk : Kept S w w') (hs : ∀ a, A = some a → ¬ S a.block) : Eg w' A n L :=
  ⟨h.len, fun k e he => by
    obtain ⟨ad, ea, h4⟩ := h.at' k e he
    exact ⟨ad, ea, h4.kept hk (by rw [show (ad.add (k * 4)).block = ad.block by unfold Addr.add; split <;> rfl]; exact hs ad ea)⟩⟩
theorem Eg.at_ {w : World} {A : Option Addr} {n : Nat} {L : List ElemS} (h : Eg w A n L) {k : Nat} (hk : k < n) : ∃ ad e, A = some ad ∧ L[k]? = some e ∧ El4 w (ad.add (k * 4)) e := by
  have hl : k < L.length := by rw [h.len]; exact hk
  obtain ⟨ad, ea, h4⟩ := h.at' k L[k] (List.getElem?_eq_getElem hl)
  exact ⟨ad, L[k], ea, List.getElem?_eq_getElem hl, h4⟩
/-- Elements' cells, one behind another. -/
def flatE (L : List ElemS) : List Value := L.flatMap ElemS.vs
theorem flatE_app (a b : List ElemS) : flatE (a ++ b) = flatE a ++ flatE b := by simp [flatE]
theorem flatE_one (e : ElemS) : flatE [e] = e.vs := by simp [flatE]
theorem flatE_len : ∀ L : List ElemS, (flatE L).length = L.length * 4
  | [] => rfl
  | e :: L => by
    have := flatE_len L
    unfold flatE at *
    rw [List.flatMap_cons, List.length_append, this, List.length_cons]
    simp [ElemS.vs]
    omega
theorem flatE_get : ∀ {L : List ElemS} {i f : Nat} {e : ElemS} {u : Value}, L[i]? = some e → e.vs[f]? = some u → (flatE L)[i * 4 + f]? = some u
  | [], i, f, e, u, h, _ => by simp at h
  | q :: L, 0, f, e, u, h, hf => by
    simp only [List.getElem?_cons_zero, Option.some.injEq] at h
    subst h
    unfold flatE
    have hl : f < q.vs.length := by
      by_cases hl : f < q.vs.length
      · exact hl
      · rw [List.getElem?_eq_none (by omega)] at hf; cases hf
    rw [List.flatMap_cons, List.getElem?_append_left (by omega)]
    simpa using hf
  | q :: L, i + 1, f, e, u, h, hf => by
    have ih := flatE_get (L := L) (i := i) (by simpa using h) hf
    unfold flatE at *
    have hl : q.vs.length = 4 := rfl
    rw [List.flatMap_cons, List.getElem?_append_right (by omega), hl, show (i + 1) * 4 + f - 4 = i * 4 + f by omega]
    exact ih
theorem four_one {e : ElemS} : ∀ u ∈ e.vs, u.oneCell' = true := by
  intro u hu
  simp only [ElemS.vs, List.mem_cons, List.not_mem_nil, or_false] at hu
  rcases hu with rfl | rfl | rfl | rfl <;> rfl
theorem four_cells {W : World} {e : ElemS} {ty : TypeId} : ∀ j u, e.vs[j]? = some u → (W.alloc (.cells #[.int .i64 e.t, .int .i64 e.si, .int .i64 e.r, .bool e.d] ty)).cell? ((⟨W.heap.size, 0, none⟩ : Addr).add j) = some u := by
  intro j u hj
  rw [addr_add, cell_of_row _ _ _ _ _ _ (heap_alloc_new W _)]
  match j, hj with
  | 0, hj => simpa [ElemS.vs] using hj
  | 1, hj => simpa [ElemS.vs] using hj
  | 2, hj => simpa [ElemS.vs] using hj
  | 3, hj => simpa [ElemS.vs] using hj
/-- A slice of elements, as a value. -/
def Se (w : World) (v : Value) (L : List ElemS) : Prop := ∃ A n c, v = .slice A n c ∧ Eg w A n L ∧ n ≤ c ∧ (A = none → n = 0 ∧ c = 0)
theorem Se.kept {w w' : World} {v : Value} {L : List ElemS} (h : Se w v L) (hk : Kept (fun _ => False) w w') : Se w' v L := by
  obtain ⟨A, n, c, e, h1, h2, h3⟩ := h
  exact ⟨A, n, c, e, h1.kept hk (fun _ _ => id), h2, h3⟩
theorem Se.open' {w : World} {v : Value} {L : List ElemS} (h : Se w v L) : ∃ A c, v = .slice A L.length c ∧ Eg w A L.length L ∧ L.length ≤ c ∧ (A = none → L.length = 0 ∧ c = 0) := by
  obtain ⟨A, n, c, rfl, h1, h2, h3⟩ := h
  have := h1.len
  subst this
  exact ⟨A, c, rfl, h1, h2, h3⟩
theorem se_nil (w : World) : Se w (.slice none 0 0) [] := ⟨none, 0, 0, rfl, ⟨rfl, fun k r h => by simp at h⟩, Nat.le_refl _, fun _ => ⟨rfl, rfl⟩⟩
/-- What a call tells of elements, its own. -/
def Oe (w : World) (B : Nat) (v : Value) (L : List ElemS) : Prop := w.ownsRow B 71 4 v L.length (flatE L)
theorem Oe.kept {w w' : World} {B : Nat} {v : Value} {L : List ElemS} (h : Oe w B v L) (hk : Kept (fun _ => False) w w') : Oe w' B v L := by
  refine ⟨h.1, ?_⟩
  rcases h.2 with hn | ⟨g, cap, cur, e, hb, hg, rest⟩
  · exact .inl hn
  · exact .inr ⟨g, cap, cur, e, hb, (hk.block g (heap_lt hg) id).trans hg, rest⟩
theorem Oe.lt {w : World} {B : Nat} {v : Value} {L : List ElemS} (h : Oe w B v L) : ∀ k, v.ownBlock = some k → B ≤ k ∧ k < w.heap.size := fun k hk => World.ownsRow.lt h k hk
theorem oe_nil (w : World) (B : Nat) : Oe w B (.slice none 0 0) [] := World.ownsRow_nil _ _ _ _
theorem Oe.snoc {w : World} {B : Nat} {v : Value} {L : List ElemS} {e : ElemS} (h : w.ownsRow B 71 4 v (L.length + 1) (flatE L ++ e.vs)) : Oe w B v (L ++ [e]) := by
  unfold Oe
  rw [List.length_append, List.length_singleton, flatE_app, flatE_one]
  exact h
theorem Oe.se {w : World} {B : Nat} {v : Value} {L : List ElemS} (h : Oe w B v L) : Se w v L := by
  rcases id h.2 with ⟨rfl, hl⟩ | ⟨g, cap, cur, rfl, hb, hh, hcap, _, _, _⟩
  · obtain rfl := List.eq_nil_of_length_eq_zero hl
    exact se_nil w
  · refine ⟨_, _, cap, rfl, ⟨rfl, fun k e he => ⟨_, rfl, ?_⟩⟩, hcap, fun h => by cases h⟩
    have hcells : ∀ j u, (flatE L)[j]? = some u → w.cell? ((⟨g, 0, none⟩ : Addr).add j) = some u := World.ownsRow.cells h rfl
    have g0 := hcells (k * 4 + 0) _ (flatE_get he (f := 0) rfl)
    have g1 := hcells (k * 4 + 1) _ (flatE_get he (f := 1) rfl)
    have g2 := hcells (k * 4 + 2) _ (flatE_get he (f := 2) rfl)
    have g3 := hcells (k * 4 + 3) _ (flatE_get he (f := 3) rfl)
    rw [addr_add] at g0 g1 g2 g3
    have e : (⟨g, 0, none⟩ : Addr).add (k * 4) = ⟨g, k * 4, none⟩ := by rw [addr_add, Nat.zero_add]
    rw [e]
    exact ⟨by simpa using g0, by simpa using g1, by simpa using g2, by simpa using g3⟩
end Go.Proofs.YthkohjijppbliaaDoor
namespace Go.Proofs.YthkohjijppbliaaDoor
open Go Go.RowKit

/-- Runes that a rune of a text may be. -/
def Vld (t : List Int) : Prop := ∀ r ∈ t, Utf8.valid r = true
theorem Vld.append {a b : List Int} (ha : Vld a) (hb : Vld b) : Vld (a ++ b) := fun r hr => (List.mem_append.1 hr).elim (ha r) (hb r)
theorem Vld.sub {a t : List Int} (h : Vld t) (hs : ∀ r ∈ a, r ∈ t) : Vld a := fun r hr => h r (hs r hr)
theorem rs_vld {s : ByteArray} (h : mayB s = true) : Vld (rs s) := Utf.valid_runes (mayB_valid h)
theorem txt_list (t : List Int) : (runesBytes t).data.toList = Utf.bytes t := Utf.runesBytes_eq t
theorem rs_txt {t : List Int} (h : Vld t) : rs (runesBytes t) = t := by
  unfold rs
  rw [txt_list]
  exact Utf.runes_bytes t h
theorem ba_ext {a b : ByteArray} (h : a.data.toList = b.data.toList) : a = b := by
  cases a; cases b
  simp only [ByteArray.mk.injEq]
  exact Array.ext' h
theorem txt_rs {s : ByteArray} (h : mayB s = true) : runesBytes (rs s) = s := by
  apply ba_ext
  rw [txt_list]
  exact Utf.bytes_runes (mayB_valid h)
theorem txt_append (a b : List Int) : runesBytes a ++ runesBytes b = runesBytes (a ++ b) := by
  apply ba_ext
  rw [txt_list, Utf.bytes_append]
  simp [txt_list]
theorem txt_size (t : List Int) : (runesBytes t).size = (Utf.bytes t).length := by
  rw [← txt_list]
  exact (Lib.size_eq _)
theorem bytes_sub {a t : List Int} (h : List.Sublist a t) : (Utf.bytes a).length ≤ (Utf.bytes t).length := by
  induction h with
  | slnil => exact Nat.le_refl _
  | cons n _ ih =>
    show _ ≤ (Utf.enc n ++ Utf.bytes _).length
    rw [List.length_append]
    omega
  | cons_cons n _ ih =>
    show (Utf.enc n ++ Utf.bytes _).length ≤ (Utf.enc n ++ Utf.bytes _).length
    rw [List.length_append, List.length_append]
    omega
/-- No byte is 0 where no rune is. -/
theorem enc_zero {n : Int} (hv : Utf8.valid n = true) (h0 : n ≠ 0) : ∀ b ∈ Utf.enc n, b ≠ 0 := by
  have hn := Utf.int_valid hv
  obtain ⟨c, rfl⟩ := Int.eq_ofNat_of_zero_le (show 0 ≤ n by omega)
  rw [Utf.enc_of hv]
  intro b hb e
  subst e
  have hz : ∀ m, m < 256 → (0 : UInt8) = UInt8.ofNat m → m = 0 := fun m hm h => by
    have := congrArg UInt8.toNat h
    rw [Utf.toNat_ofNat hm] at this
    simpa using this.symm
  by_cases h1 : c < 128
  · rw [if_pos h1] at hb
    simp only [List.mem_singleton] at hb
    have := hz c (by omega) hb
    omega
  rw [if_neg h1] at hb
  by_cases h2 : c < 2048
  · rw [if_pos h2] at hb
    simp only [List.mem_cons, List.not_mem_nil, or_false] at hb
    rcases hb with hb | hb
    · have := hz _ (by omega) hb; omega
    · have := hz _ (by omega) hb; omega
  rw [if_neg h2] at hb
  by_cases h3 : c < 65536
  · rw [if_pos h3] at hb
    simp only [List.mem_cons, List.not_mem_nil, or_false] at hb
    rcases hb with hb | hb | hb
    · have := hz _ (by omega) hb; omega
    · have := hz _ (by omega) hb; omega
    · have := hz _ (by omega) hb; omega
  rw [if_neg h3] at hb
  simp only [List.mem_cons, List.not_mem_nil, or_false] at hb
  rcases hb with hb | hb | hb | hb
  · have := hz _ (by omega) hb; omega
  · have := hz _ (by omega) hb; omega
  · have := hz _ (by omega) hb; omega
  · have := hz _ (by omega) hb; omega
theorem bytes_zero {t : List Int} (hv : Vld t) (h0 : (0 : Int) ∉ t) : ∀ b ∈ Utf.bytes t, b ≠ 0 := by
  induction t with
  | nil => intro b hb; cases hb
  | cons n t ih =>
    intro b hb
    have hb' : b ∈ Utf.enc n ++ Utf.bytes t := hb
    rcases List.mem_append.1 hb' with h | h
    · exact enc_zero (hv n (by simp)) (fun e => h0 (by simp [e])) b h
    · exact ih (fun r hr => hv r (by simp [hr])) (fun h => h0 (by simp [h])) b h
theorem rs_zero {s : ByteArray} (h : mayB s = true) : (0 : Int) ∉ rs s := by
  intro hz
  have h1 := mayB_zero h
  have h2 := Utf.bytes_runes (mayB_valid h)
  rw [← h2] at h1
  have : ∀ t : List Int, (0 : Int) ∈ t → (0 : UInt8) ∈ Utf.bytes t := by
    intro t
    induction t with
    | nil => intro h; cases h
    | cons n t ih =>
      intro h
      show (0 : UInt8) ∈ Utf.enc n ++ Utf.bytes t
      rcases List.mem_cons.1 h with h | h
      · subst h
        exact List.mem_append_left _ (by decide)
      · exact List.mem_append_right _ (ih h)
  exact h1 0 (this _ hz) rfl
/-- A text may be, if its runes may, none is 0, and it isn't too long. -/
theorem may_txt {t : List Int} (hv : Vld t) (h0 : (0 : Int) ∉ t) : mayB (runesBytes t) = decide ((Utf.bytes t).length ≤ 4000) := by
  unfold mayB
  rw [txt_list, txt_size, Utf.valid_bytes t hv, Bool.and_true]
  have : (Utf.bytes t).all (fun b => b != 0) = true := List.all_eq_true.2 fun b hb => by simpa using bytes_zero hv h0 b hb
  rw [this, Bool.and_true]
/-- Of what a text has, with something left out, a text may be made. -/
theorem may_sub {s : ByteArray} {t : List Int} (h : mayB s = true) (hs : List.Sublist t (rs s)) : mayB (runesBytes t) = true := by
  have hsz := mayB_size h
  have e := Utf.bytes_runes (mayB_valid h)
  have hl := bytes_sub hs
  have h2 : (Utf.bytes (rs s)).length = s.size := by
    unfold rs
    rw [e]
    exact (Lib.size_eq s).symm
  rw [may_txt ((rs_vld h).sub fun r hr => hs.subset hr) (fun hz => rs_zero h (hs.subset hz)), decide_eq_true_eq]
  omega

/-- A slice, cut: where it begins. -/
def cutB (A : Option Addr) (c lo : Nat) : Option Addr := if c = lo then A else A.map (·.add lo)
set_option maxRecDepth 100000 in
theorem run_cut_lh (w : World) (A : Option Addr) (n c lo hi : Nat) (L H : Int) (hL : L = lo) (hH : H = hi) (h1 : lo ≤ hi) (h2 : hi ≤ c) :
    (Instr.slice 90 (.slice A n c) (some (.int .i64 L)) (some (.int .i64 H)) none).run Tryd.prog w = .ok (.slice (cutB A c lo) (hi - lo) (c - lo)) w := by
  subst hL hH
  rw [run_slice_lh (P := Tryd.prog) w 90 A n c Tryd.underlying90 .i64 .i64 _ _ (by omega) (by omega) (by omega)]
  have hz : ((sizeOf (Tryd.prog.elem 90)).run Tryd.prog w) = .ok 1 w := by kernel_rfl
  rw [hz]
  simp [Result.andThen, sliced, cutB]
set_option maxRecDepth 100000 in
theorem run_cut_h (w : World) (A : Option Addr) (n c hi : Nat) (H : Int) (hH : H = hi) (h2 : hi ≤ c) :
    (Instr.slice 90 (.slice A n c) none (some (.int .i64 H)) none).run Tryd.prog w = .ok (.slice (cutB A c 0) hi c) w := by
  subst hH
  rw [run_slice_h (P := Tryd.prog) w 90 A n c Tryd.underlying90 .i64 _ (by omega) (by omega)]
  have hz : ((sizeOf (Tryd.prog.elem 90)).run Tryd.prog w) = .ok 1 w := by kernel_rfl
  rw [hz]
  simp [Result.andThen, sliced, cutB]
set_option maxRecDepth 100000 in
theorem run_cut_l (w : World) (A : Option Addr) (n c lo : Nat) (L : Int) (hL : L = lo) (h1 : lo ≤ n) (h2 : n ≤ c) :
    (Instr.slice 90 (.slice A n c) (some (.int .i64 L)) none none).run Tryd.prog w = .ok (.slice (cutB A c lo) (n - lo) (c - lo)) w := by
  subst hL
  rw [run_slice_l (P := Tryd.prog) w 90 A n c Tryd.underlying90 .i64 _ (by omega) (by omega)]
  have hz : ((sizeOf (Tryd.prog.elem 90)).run Tryd.prog w) = .ok 1 w := by kernel_rfl
  rw [hz]
  simp [Result.andThen, sliced, cutB]
theorem Rn.cut {w : World} {A : Option Addr} {n c lo hi : Nat} {t : List Int} (h : Rn w A n t) (h1 : lo ≤ hi) (h2 : hi ≤ n) (hc : n ≤ c) : Rn w (cutB A c lo) (hi - lo) ((t.take hi).drop lo) := by
  have hl := h.1
  refine ⟨by rw [List.length_drop, List.length_take, hl]; omega, fun j x hj => ?_⟩
  rw [List.getElem?_drop, List.getElem?_take] at hj
  split at hj
  · rename_i hlt
    obtain ⟨ad, rfl, hcl⟩ := h.2 (lo + j) x hj
    unfold cutB
    rw [if_neg (by omega)]
    exact ⟨ad.add lo, rfl, by rw [Go.Deep.add_add]; exact hcl⟩
  · cases hj
theorem Rn.form {w : World} {A : Option Addr} {n : Nat} {t : List Int} (h : Rn w A n t) (hA : A = none) : n = 0 := by
  have hl := h.1
  subst hA
  cases t with
  | nil => simpa using hl.symm
  | cons x t =>
    obtain ⟨ad, e, _⟩ := h.2 0 x rfl
    cases e

set_option maxRecDepth 100000 in
theorem run_txt {w : World} {A : Option Addr} {n c : Nat} {t : List Int} (h : Rn w A n t) : (convert 90 9 (.slice A n c)).run Tryd.prog w = .ok (.string (runesBytes t)) w := by
  cases A with
  | none =>
    have h0 := h.form rfl
    have hl := h.1
    have : t = [] := List.eq_nil_of_length_eq_zero (by omega)
    subst this
    rw [run_convert_runes_nil w 90 9 21 _ _ Tryd.underlying90 Tryd.underlying21 Tryd.underlying9]
    rfl
  | some ad =>
    have h2 := run_convert_runes (P := Tryd.prog) w 90 9 21 ad n c t (by have := h.1; omega) Tryd.underlying90 Tryd.underlying21 Tryd.underlying9 (fun j hj => by
      obtain ⟨ad2, e, hc⟩ := h.2 j t[j] (List.getElem?_eq_getElem hj)
      injection e with e
      subst e
      rw [hc]
      simp [List.getD, hj])
    rw [List.take_of_length_le (by have := h.1; omega)] at h2
    exact h2
end Go.Proofs.YthkohjijppbliaaDoor
namespace Go.Proofs.YthkohjijppbliaaDoor
open Go Go.RowKit

/-- The elements of runes. -/
def EL (t : List Int) : List ElemS := t.zipIdx.map fun p => ⟨(p.2 : Int) + 1, 0, p.1, false⟩
theorem EL_nil : EL [] = [] := rfl
theorem EL_snoc (t : List Int) (r : Int) : EL (t ++ [r]) = EL t ++ [⟨(t.length : Int) + 1, 0, r, false⟩] := by
  unfold EL
  rw [List.zipIdx_append, List.map_append]
  simp
theorem EL_len (t : List Int) : (EL t).length = t.length := by simp [EL]
theorem EL_take {t : List Int} {k : Nat} {r : Int} (h : t[k]? = some r) : EL (t.take (k + 1)) = EL (t.take k) ++ [⟨(k : Int) + 1, 0, r, false⟩] := by
  have hk : k < t.length := by
    by_cases hk : k < t.length
    · exact hk
    · rw [List.getElem?_eq_none (by omega)] at h; cases h
  rw [List.take_add_one, h]
  show EL (t.take k ++ [r]) = _
  rw [EL_snoc, List.length_take, Nat.min_eq_left (by omega)]
theorem i32_rune {r : Int} (h : 0 ≤ r ∧ r ≤ 1114111) : IntKind.i32.wrap r = r := by
  rw [show IntKind.i32.wrap r = r from by
    simp only [IntKind.wrap, IntKind.bits, IntKind.signed]
    simp
    omega]
theorem count_from (s : ByteArray) : ∀ (b pos : Nat), s.size ≤ pos + b → Lib.runeCountFrom s b pos = (Utf.runes (s.data.toList.drop pos)).length
  | 0, pos, h => by rw [rune_end s pos (by omega)]; rfl
  | b + 1, pos, h => by
    by_cases hp : pos < s.size
    · have hw := Lib.decode_width_pos s pos hp
      have ih := count_from s b (pos + (Utf8.decode s pos).2) (by omega)
      have e : Lib.runeCountFrom s (b + 1) pos = 1 + Lib.runeCountFrom s b (pos + (Utf8.decode s pos).2) := by
        rw [Lib.runeCountFrom, if_pos hp]
      rw [rune_at s pos hp, List.length_cons, ← ih, e]
      omega
    · rw [rune_end s pos hp, Lib.runeCountFrom_end s _ pos hp]; rfl
theorem rcount_any (s : ByteArray) (w : World) (hs : s.size ≤ 1000000) : Calls Tryd.prog 49 #[.string s] w fun e w' => e = .returned (.int .i64 (rs s).length) ∧ Kept (fun _ => False) w w' := by
  have h := Any.utf8_RuneCountInString Tryd.lays195 s w (by omega)
  have e : Lib.runeCount s = (rs s).length := by
    have := count_from s s.size 0 (by omega)
    exact this
  rw [e] at h
  exact h.mono fun e w' ⟨he, pos, hw⟩ => ⟨he, by rw [hw]; exact (Kept.refl _ w).alloc _⟩
/-- How long a text is, or the error. -/
theorem plen_any (s : ByteArray) (w : World) (hs : s.size ≤ 140737488351232) (hT : Tabs w) :
    Calls Tryd.prog 118 #[.string s] w fun e w' => e = .returned (if mayB s = true then .tuple #[.int .i64 (rs s).length, .int .i64 0] else .tuple #[.int .i64 0, .int .i64 1]) ∧ Kept (fun _ => False) w w' := by
  have cC := check_any s w hs hT
  cases hm : mayB s with
  | false =>
    rw [if_neg (by rw [hm]; decide)] at cC
    rw [if_neg (by decide)]
    clear hT hm
    go_enter Tryd.func118, Tryd.ntmps118
    go_wp2_with (go_at_call 102; refine cC.mono ?_; clear cC; rintro e w1 ⟨rfl, hk1⟩; have HK1 := Lib.hid hk1; clear hk1)
    go_ret2
    exact ⟨rfl, HK1.out⟩
  | true =>
    have hz := mayB_size hm
    rw [if_pos hm] at cC
    rw [if_pos rfl]
    have cR := fun W => rcount_any s W (by omega)
    clear hT hm
    go_enter Tryd.func118, Tryd.ntmps118
    go_wp2_with (first
      | (go_at_call 102; refine cC.mono ?_; clear cC; rintro e w1 ⟨rfl, hk1⟩; have HK1 := Lib.hid hk1; clear hk1)
      | (go_at_call 49; refine (cR _).mono ?_; clear cR; rintro e w2 ⟨rfl, hk2⟩; have HK2 := Lib.hid (HK1.out.trans hk2); clear hk2))
    go_ret2
    exact ⟨rfl, HK2.out⟩
/-- What the reference tells of a first text. -/
def RFirst (w' : World) (B : Nat) (t : List Int) (e : Ending) : Prop := if t.length ≤ 200 then ∃ v, e = .returned (.tuple #[v, .bool true]) ∧ Oe w' B v (EL t) else e = .returned (.tuple #[.slice none 0 0, .bool false])
theorem Oe.mono {w : World} {B B' : Nat} {v : Value} {L : List ElemS} (h : Oe w B v L) (hb : B' ≤ B) : Oe w B' v L := by
  refine ⟨h.1, ?_⟩
  rcases h.2 with hn | ⟨g, cap, cur, e, hB, rest⟩
  · exact .inl hn
  · exact .inr ⟨g, cap, cur, e, Nat.le_trans hb hB, rest⟩
set_option maxRecDepth 100000 in
set_option maxHeartbeats 4000000 in
theorem rfirst_any (s : ByteArray) (w : World) (hm : mayB s = true) :
    Calls Tryd.prog 17 #[.string s] w fun e w' => RFirst w' w.heap.size (rs s) e ∧ Kept (fun _ => False) w w' := by
  obtain ⟨i0, hi, hz0, hz1, hz2⟩ := info_parts info_elem
  have hs := mayB_size hm
  obtain ⟨cap, w1, hcap, hcv, hk1, hlt, hR⟩ := conv_rs s w (by omega)
  have hrs := rs_runey (mayB_valid hm)
  generalize rs s = t at *
  have HK1 := Lib.hid hk1
  have HR := Lib.hid hR
  have HRS := Lib.hid hrs
  obtain ⟨B, hB⟩ : ∃ B, w1.heap.size = B := ⟨_, rfl⟩
  have HB := Lib.hid hB
  have HBW : Hid (w.heap.size ≤ B) := by show _ ≤ _; rw [← hB]; exact hk1.size
  clear hk1 hR hlt hB hrs hm
  obtain ⟨n, hn⟩ : ∃ n, t.length = n := ⟨_, rfl⟩
  rw [hn] at hcv HR hcap
  have HN := Lib.hid hn
  unfold RFirst
  rw [hn]
  clear hn
  by_cases h200 : n ≤ 200
  · have HIF : Hid (n ≤ 200) := h200
    have b0 : decide (200 < n) = false := decide_eq_false (by omega)
    have b01 : decide ((200 : Int) < (n : Int)) = false := decide_eq_false (by omega)
    go_enter Tryd.func17, Tryd.ntmps17
    go_wp2_with fail
    go_loopw [5, 6] (fun v i wr => ∃ k : Nat, k ≤ n ∧ i = .int .i64 k ∧ Oe wr B v (EL (t.take k)) ∧ Kept (fun _ => False) w1 wr) (fun _ i _ => n - (intOf i).toNat)
    case atStart => exact ⟨0, Nat.zero_le _, rfl, oe_nil _ _, Kept.refl _ _⟩
    case round =>
      obtain ⟨k, hk, rfl, hown, hkept⟩ := hrel
      have HK := Lib.hid hkept
      clear hkept
      by_cases hlt : k < n
      · obtain ⟨ad, x, ha, hx, hc⟩ := (HR.out.kept HK.out (fun _ _ => id)).cell hlt
        injection ha with ha
        subst ha
        rw [addr_add, Nat.zero_add] at hc
        have hxr := HRS.out.at_ hx
        have e32 : IntKind.i64.wrap x = x := IntWalk.i64_in _ ⟨by omega, by omega⟩
        have b1 : decide (k < n) = true := decide_eq_true hlt
        have b2 : decide ((k : Int) < (n : Int)) = true := decide_eq_true (by omega)
        have t1 : (0 : Int) ≤ (k : Int) := by omega
        have t2 : (k : Int) < (n : Int) := by omega
        have HE := Lib.hid (EL_take hx)
        have hLL : (EL (t.take k)).length ≤ n := by rw [EL_len, List.length_take]; omega
        have hBw : B ≤ wr.heap.size := by have := HB.out; have := HK.out.size; omega
        clear hx
        generalize EL (t.take k) = L at *
        go_wp2_with (at_builtin; refine wpList_append_own_at _ rfl (.tmp 18) (.tmp 28) 22 rfl B 71 i0 (.agg #[.int .i64 0, .int .i64 0, .int .i64 0, .bool false]) 4 32 Tryd.underlying22 hi hz0 hz1 hz2 rfl (by decide) _ _ _ rfl (World.ownsRow.alloc hown _) ⟨_, 0, none⟩ 1 1 (ElemS.vs ⟨(k : Int) + 1, 0, x, false⟩) rfl rfl four_cells four_one (by unfold maxLen; omega) (by omega) (by have := HB.out; simp <;> omega) ?_; intro v5 w5 hown5 hgrow5 _ hat5; have HO5 := Lib.hid (Oe.snoc hown5); have HK5 := Lib.hid (Kept.grew (HK.out.alloc _) hgrow5 (fun q hq => by have := (Oe.lt hown q hq).1; have := HB.out; omega)); clear hown5 hgrow5 hat5)
        go_roundw
        case rel => exact ⟨k + 1, by omega, by go_num, by rw [HE.out]; exact HO5.out, HK5.out⟩
        case measure => simp [intOf] <;> omega
      · obtain rfl : k = n := by omega
        have b1 : decide (k < k) = false := decide_eq_false (by omega)
        have b2 : decide ((k : Int) < (k : Int)) = false := decide_eq_false (by omega)
        have hall : t.take k = t := List.take_of_length_le (by rw [HN.out]; exact Nat.le_refl _)
        rw [hall] at hown
        clear hall
        go_wp2_with fail
        go_ret2
        exact ⟨⟨_, rfl, hown.mono HBW.out⟩, HK1.out.trans HK.out⟩
  · have HIF : Hid (¬ n ≤ 200) := h200
    have b0 : decide (200 < n) = true := decide_eq_true (by omega)
    have b01 : decide ((200 : Int) < (n : Int)) = true := decide_eq_true (by omega)
    go_enter Tryd.func17, Tryd.ntmps17
    go_wp2_with fail
    go_ret2
    exact ⟨rfl, HK1.out⟩
end Go.Proofs.YthkohjijppbliaaDoor
namespace Go.Proofs.YthkohjijppbliaaDoor
open Go Go.RowKit

/-- The iterator set on. -/
def setIter (w : World) (g : Nat) (s : ByteArray) (pos : Nat) : World := { w with heap := w.heap.setIfInBounds g (.stringIter s pos) }
theorem run_next_at (w : World) (g : Nat) (s : ByteArray) (pos : Nat) (ty : TypeId) (hg : w.heap[g]? = some (.stringIter s pos)) (hp : pos < s.size) :
    (Instr.next (.pointer (some ⟨g, 0, none⟩)) true ty).run Tryd.prog w = .ok (.tuple #[.bool true, .int .i64 pos, .int .i32 (Utf8.decode s pos).1]) (setIter w g s (pos + (Utf8.decode s pos).2)) := by
  simp only [Instr.next, getObj, setObj, Sem.run_bind, Sem.run, hg, Result.andThen, hp, if_true]
  simp [goInt, setIter]
theorem run_next_done (w : World) (g : Nat) (s : ByteArray) (pos : Nat) (ty : TypeId) (hg : w.heap[g]? = some (.stringIter s pos)) (hp : ¬ pos < s.size) :
    (Instr.next (.pointer (some ⟨g, 0, none⟩)) true ty).run Tryd.prog w = .ok (.tuple #[.bool false]) w := by
  simp [Instr.next, getObj, Sem.run, hg, hp]
theorem iter_same {w : World} {g : Nat} {o : Obj} {s : ByteArray} {pos : Nat} (h : w.heap[g]? = some o) : (setIter w g s pos).heap[g]? = some (.stringIter s pos) := by
  have := heap_lt h
  simp [setIter, this]
theorem iter_far {w : World} {g b : Nat} {s : ByteArray} {pos : Nat} (h : b ≠ g) : (setIter w g s pos).heap[b]? = w.heap[b]? := by
  simp [setIter, Ne.symm h]
theorem Kept.iter (w : World) (g : Nat) (s : ByteArray) (pos : Nat) : Kept (fun b => b = g) w (setIter w g s pos) :=
  ⟨rfl, rfl, rfl, by simp [setIter], fun k _ hk => iter_far hk⟩
theorem iterPos_at {w : World} {g : Nat} {s : ByteArray} {pos : Nat} (h : w.heap[g]? = some (.stringIter s pos)) : w.iterPos g = pos := by
  unfold World.iterPos
  rw [h]
/-- The runes from a byte on, by what stands there. -/
theorem rune_step {s : ByteArray} {t : List Int} {pos j : Nat} (h : Utf.runes (s.data.toList.drop pos) = t.drop j) (hp : pos < s.size) : t[j]? = some ((Utf8.decode s pos).1 : Int) ∧ Utf.runes (s.data.toList.drop (pos + (Utf8.decode s pos).2)) = t.drop (j + 1) ∧ pos < pos + (Utf8.decode s pos).2 := by
  have e := rune_at s pos hp
  rw [h] at e
  have hl : j < t.length := by
    by_cases hl : j < t.length
    · exact hl
    · rw [List.drop_eq_nil_of_le (by omega)] at e; cases e
  rw [List.drop_eq_getElem_cons hl] at e
  injection e with e1 e2
  exact ⟨by rw [List.getElem?_eq_getElem hl, e1], e2.symm, by have := Lib.decode_width_pos s pos hp; omega⟩
theorem rune_stop {s : ByteArray} {t : List Int} {pos j : Nat} (h : Utf.runes (s.data.toList.drop pos) = t.drop j) (hp : ¬ pos < s.size) (hj : j ≤ t.length) : j = t.length := by
  rw [rune_end s pos hp] at h
  have := congrArg List.length h
  simp at this
  omega
theorem Oe.keptS {S : Nat → Prop} {w w' : World} {B : Nat} {v : Value} {L : List ElemS} (h : Oe w B v L) (hk : Kept S w w') (hs : ∀ k, v.ownBlock = some k → ¬ S k) : Oe w' B v L := by
  refine ⟨h.1, ?_⟩
  rcases h.2 with hn | ⟨g, cap, cur, e, hb, hg, rest⟩
  · exact .inl hn
  · exact .inr ⟨g, cap, cur, e, hb, (hk.block g (heap_lt hg) (hs g (by rw [e]; rfl))).trans hg, rest⟩
theorem Oe.form {w : World} {B : Nat} {v : Value} {L : List ElemS} (h : Oe w B v L) : ∃ A c, v = .slice A L.length c := by
  rcases h.2 with ⟨hv, h0⟩ | ⟨g0, cap, cur, hv, _⟩
  · exact ⟨none, 0, by rw [hv, h0]⟩
  · exact ⟨some ⟨g0, 0, none⟩, cap, hv⟩
/-- What the program tells of a first text. -/
def PFirst (w' : World) (B : Nat) (s : ByteArray) (e : Ending) : Prop := (mayB s = true ∧ (rs s).length ≤ 200 ∧ ∃ v, e = .returned (.tuple #[v, .int .i64 0]) ∧ Oe w' B v (EL (rs s))) ∨ (mayB s = true ∧ ¬ (rs s).length ≤ 200 ∧ e = .returned (.tuple #[.slice none 0 0, .int .i64 4])) ∨ (mayB s = false ∧ e = .returned (.tuple #[.slice none 0 0, .int .i64 1]))
end Go.Proofs.YthkohjijppbliaaDoor
