/-
  TEXTS MADE OF RUNES: what they read as, and whether they may be; slices of runes, cut, and made texts.
-/
import Derived.Test.YthbfmdnibijapaaDoorRunes
import Derived.Laws.Cover4
import Derived.Laws.Slices
import Derived.Deep.Slices
set_option linter.unusedVariables false
namespace Go.Proofs.YthbfmdnibijapaaDoor
open Go Go.RowKit

/-- Runes that a rune of a text may be. -/
def Vld (t : List Int) : Prop := ∀ r ∈ t, Utf8.valid r = true
theorem Vld.append {a b : List Int} (ha : Vld a) (hb : Vld b) : Vld (a ++ b) := fun r hr => (List.mem_append.1 hr).elim (ha r) (hb r)
theorem Vld.sub {a t : List Int} (h : Vld t) (hs : ∀ r ∈ a, r ∈ t) : Vld a := fun r hr => h r (hs r hr)
theorem rs_vld {s : ByteArray} (h : mayB s = true) : Vld (rs s) := Utf.valid_runes (mayB_valid h)
theorem txt_list (t : List Int) : (runesBytes t).data.toList = Utf.bytes t := Utf.runesBytes_eq t
theorem rs_txt {t : List Int} (h : Vld t) : rs (runesBytes t) = t := by
  unfold rs
  rw [txt_list]
  exact Utf.runes_bytes t h
theorem ba_ext {a b : ByteArray} (h : a.data.toList = b.data.toList) : a = b := by
  cases a; cases b
  simp only [ByteArray.mk.injEq]
  exact Array.ext' h
theorem txt_rs {s : ByteArray} (h : mayB s = true) : runesBytes (rs s) = s := by
  apply ba_ext
  rw [txt_list]
  exact Utf.bytes_runes (mayB_valid h)
theorem txt_append (a b : List Int) : runesBytes a ++ runesBytes b = runesBytes (a ++ b) := by
  apply ba_ext
  rw [txt_list, Utf.bytes_append]
  simp [txt_list]
theorem txt_size (t : List Int) : (runesBytes t).size = (Utf.bytes t).length := by
  rw [← txt_list]
  exact (Lib.size_eq _)
theorem bytes_sub {a t : List Int} (h : List.Sublist a t) : (Utf.bytes a).length ≤ (Utf.bytes t).length := by
  induction h with
  | slnil => exact Nat.le_refl _
  | cons n _ ih =>
    show _ ≤ (Utf.enc n ++ Utf.bytes _).length
    rw [List.length_append]
    omega
  | cons_cons n _ ih =>
    show (Utf.enc n ++ Utf.bytes _).length ≤ (Utf.enc n ++ Utf.bytes _).length
    rw [List.length_append, List.length_append]
    omega
/-- No byte is 0 where no rune is. -/
theorem enc_zero {n : Int} (hv : Utf8.valid n = true) (h0 : n ≠ 0) : ∀ b ∈ Utf.enc n, b ≠ 0 := by
  have hn := Utf.int_valid hv
  obtain ⟨c, rfl⟩ := Int.eq_ofNat_of_zero_le (show 0 ≤ n by omega)
  rw [Utf.enc_of hv]
  intro b hb e
  subst e
  have hz : ∀ m, m < 256 → (0 : UInt8) = UInt8.ofNat m → m = 0 := fun m hm h => by
    have := congrArg UInt8.toNat h
    rw [Utf.toNat_ofNat hm] at this
    simpa using this.symm
  by_cases h1 : c < 128
  · rw [if_pos h1] at hb
    simp only [List.mem_singleton] at hb
    have := hz c (by omega) hb
    omega
  rw [if_neg h1] at hb
  by_cases h2 : c < 2048
  · rw [if_pos h2] at hb
    simp only [List.mem_cons, List.not_mem_nil, or_false] at hb
    rcases hb with hb | hb
    · have := hz _ (by omega) hb; omega
    · have := hz _ (by omega) hb; omega
  rw [if_neg h2] at hb
  by_cases h3 : c < 65536
  · rw [if_pos h3] at hb
    simp only [List.mem_cons, List.not_mem_nil, or_false] at hb
    rcases hb with hb | hb | hb
    · have := hz _ (by omega) hb; omega
    · have := hz _ (by omega) hb; omega
    · have := hz _ (by omega) hb; omega
  rw [if_neg h3] at hb
  simp only [List.mem_cons, List.not_mem_nil, or_false] at hb
  rcases hb with hb | hb | hb | hb
  · have := hz _ (by omega) hb; omega
  · have := hz _ (by omega) hb; omega
  · have := hz _ (by omega) hb; omega
  · have := hz _ (by omega) hb; omega
theorem bytes_zero {t : List Int} (hv : Vld t) (h0 : (0 : Int) ∉ t) : ∀ b ∈ Utf.bytes t, b ≠ 0 := by
  induction t with
  | nil => intro b hb; cases hb
  | cons n t ih =>
    intro b hb
    have hb' : b ∈ Utf.enc n ++ Utf.bytes t := hb
    rcases List.mem_append.1 hb' with h | h
    · exact enc_zero (hv n (by simp)) (fun e => h0 (by simp [e])) b h
    · exact ih (fun r hr => hv r (by simp [hr])) (fun h => h0 (by simp [h])) b h
theorem rs_zero {s : ByteArray} (h : mayB s = true) : (0 : Int) ∉ rs s := by
  intro hz
  have h1 := mayB_zero h
  have h2 := Utf.bytes_runes (mayB_valid h)
  rw [← h2] at h1
  have : ∀ t : List Int, (0 : Int) ∈ t → (0 : UInt8) ∈ Utf.bytes t := by
    intro t
    induction t with
    | nil => intro h; cases h
    | cons n t ih =>
      intro h
      show (0 : UInt8) ∈ Utf.enc n ++ Utf.bytes t
      rcases List.mem_cons.1 h with h | h
      · subst h
        exact List.mem_append_left _ (by decide)
      · exact List.mem_append_right _ (ih h)
  exact h1 0 (this _ hz) rfl
/-- A text may be, if its runes may, none is 0, and it isn't too long. -/
theorem may_txt {t : List Int} (hv : Vld t) (h0 : (0 : Int) ∉ t) : mayB (runesBytes t) = decide ((Utf.bytes t).length ≤ 4000) := by
  unfold mayB
  rw [txt_list, txt_size, Utf.valid_bytes t hv, Bool.and_true]
  have : (Utf.bytes t).all (fun b => b != 0) = true := List.all_eq_true.2 fun b hb => by simpa using bytes_zero hv h0 b hb
  rw [this, Bool.and_true]
/-- Of what a text has, with something left out, a text may be made. -/
theorem may_sub {s : ByteArray} {t : List Int} (h : mayB s = true) (hs : List.Sublist t (rs s)) : mayB (runesBytes t) = true := by
  have hsz := mayB_size h
  have e := Utf.bytes_runes (mayB_valid h)
  have hl := bytes_sub hs
  have h2 : (Utf.bytes (rs s)).length = s.size := by
    unfold rs
    rw [e]
    exact (Lib.size_eq s).symm
  rw [may_txt ((rs_vld h).sub fun r hr => hs.subset hr) (fun hz => rs_zero h (hs.subset hz)), decide_eq_true_eq]
  omega

/-- A slice, cut: where it begins. -/
def cutB (A : Option Addr) (c lo : Nat) : Option Addr := if c = lo then A else A.map (·.add lo)
set_option maxRecDepth 100000 in
theorem run_cut_lh (w : World) (A : Option Addr) (n c lo hi : Nat) (L H : Int) (hL : L = lo) (hH : H = hi) (h1 : lo ≤ hi) (h2 : hi ≤ c) :
    (Instr.slice 105 (.slice A n c) (some (.int .i64 L)) (some (.int .i64 H)) none).run Tryd.prog w = .ok (.slice (cutB A c lo) (hi - lo) (c - lo)) w := by
  subst hL hH
  rw [run_slice_lh (P := Tryd.prog) w 105 A n c Tryd.underlying105 .i64 .i64 _ _ (by omega) (by omega) (by omega)]
  have hz : ((sizeOf (Tryd.prog.elem 105)).run Tryd.prog w) = .ok 1 w := by kernel_rfl
  rw [hz]
  simp [Result.andThen, sliced, cutB]
set_option maxRecDepth 100000 in
theorem run_cut_h (w : World) (A : Option Addr) (n c hi : Nat) (H : Int) (hH : H = hi) (h2 : hi ≤ c) :
    (Instr.slice 105 (.slice A n c) none (some (.int .i64 H)) none).run Tryd.prog w = .ok (.slice (cutB A c 0) hi c) w := by
  subst hH
  rw [run_slice_h (P := Tryd.prog) w 105 A n c Tryd.underlying105 .i64 _ (by omega) (by omega)]
  have hz : ((sizeOf (Tryd.prog.elem 105)).run Tryd.prog w) = .ok 1 w := by kernel_rfl
  rw [hz]
  simp [Result.andThen, sliced, cutB]
set_option maxRecDepth 100000 in
theorem run_cut_l (w : World) (A : Option Addr) (n c lo : Nat) (L : Int) (hL : L = lo) (h1 : lo ≤ n) (h2 : n ≤ c) :
    (Instr.slice 105 (.slice A n c) (some (.int .i64 L)) none none).run Tryd.prog w = .ok (.slice (cutB A c lo) (n - lo) (c - lo)) w := by
  subst hL
  rw [run_slice_l (P := Tryd.prog) w 105 A n c Tryd.underlying105 .i64 _ (by omega) (by omega)]
  have hz : ((sizeOf (Tryd.prog.elem 105)).run Tryd.prog w) = .ok 1 w := by kernel_rfl
  rw [hz]
  simp [Result.andThen, sliced, cutB]
theorem Rn.cut {w : World} {A : Option Addr} {n c lo hi : Nat} {t : List Int} (h : Rn w A n t) (h1 : lo ≤ hi) (h2 : hi ≤ n) (hc : n ≤ c) : Rn w (cutB A c lo) (hi - lo) ((t.take hi).drop lo) := by
  have hl := h.1
  refine ⟨by rw [List.length_drop, List.length_take, hl]; omega, fun j x hj => ?_⟩
  rw [List.getElem?_drop, List.getElem?_take] at hj
  split at hj
  · rename_i hlt
    obtain ⟨ad, rfl, hcl⟩ := h.2 (lo + j) x hj
    unfold cutB
    rw [if_neg (by omega)]
    exact ⟨ad.add lo, rfl, by rw [Go.Deep.add_add]; exact hcl⟩
  · cases hj
theorem Rn.form {w : World} {A : Option Addr} {n : Nat} {t : List Int} (h : Rn w A n t) (hA : A = none) : n = 0 := by
  have hl := h.1
  subst hA
  cases t with
  | nil => simpa using hl.symm
  | cons x t =>
    obtain ⟨ad, e, _⟩ := h.2 0 x rfl
    cases e

set_option maxRecDepth 100000 in
theorem run_txt {w : World} {A : Option Addr} {n c : Nat} {t : List Int} (h : Rn w A n t) : (convert 105 9 (.slice A n c)).run Tryd.prog w = .ok (.string (runesBytes t)) w := by
  cases A with
  | none =>
    have h0 := h.form rfl
    have hl := h.1
    have : t = [] := List.eq_nil_of_length_eq_zero (by omega)
    subst this
    rw [run_convert_runes_nil w 105 9 21 _ _ Tryd.underlying105 Tryd.underlying21 Tryd.underlying9]
    rfl
  | some ad =>
    have h2 := run_convert_runes (P := Tryd.prog) w 105 9 21 ad n c t (by have := h.1; omega) Tryd.underlying105 Tryd.underlying21 Tryd.underlying9 (fun j hj => by
      obtain ⟨ad2, e, hc⟩ := h.2 j t[j] (List.getElem?_eq_getElem hj)
      injection e with e
      subst e
      rw [hc]
      simp [List.getD, hj])
    rw [List.take_of_length_le (by have := h.1; omega)] at h2
    exact h2
theorem conv_rn (s : ByteArray) (w : World) (h : (Utf.runes s.data.toList).length ≤ 70368744177664) : ∃ cap w', (Utf.runes s.data.toList).length ≤ cap ∧
    (convert 9 105 (.string s)).run Tryd.prog w = .ok (.slice (some ⟨w.heap.size, 0, none⟩) (Utf.runes s.data.toList).length cap) w' ∧ Kept (fun _ => False) w w' ∧ w.heap.size < w'.heap.size ∧
    Rn w' (some ⟨w.heap.size, 0, none⟩) (Utf.runes s.data.toList).length (Utf.runes s.data.toList) := by
  have e := Utf.convRunes_eq s
  have hz : (Conv.runesFrom s s.size 0 #[]).size = (Utf.runes s.data.toList).length := by rw [e]; simp
  have hrun := run_runes_of_string (P := Tryd.prog) w 9 105 21 s Tryd.underlying9 Tryd.underlying105 Tryd.underlying21 (by rw [hz]; exact h)
  rw [hz] at hrun
  refine ⟨_, _, ?_, hrun, ((Kept.refl _ w).drew).alloc _, by simp, rfl, fun j x hj => ⟨_, rfl, ?_⟩⟩
  · have := grownCap_ge w (Utf.runes s.data.toList).length 0 21
    omega
  · have hh : (w.drew.alloc (.cells (Conv.runesFrom s s.size 0 #[] ++ Array.replicate (grownCap w (Utf.runes s.data.toList).length 0 21 - (Utf.runes s.data.toList).length) (.int .i32 0)) 21)).heap[w.heap.size]? = _ := heap_alloc_new w.drew _
    rw [addr_add, cell_of_row _ _ _ _ _ _ hh, e]
    have hl : j < (Utf.runes s.data.toList).length := by
      by_cases hl : j < (Utf.runes s.data.toList).length
      · exact hl
      · rw [List.getElem?_eq_none (by omega)] at hj; cases hj
    simp [Array.getElem?_append, hl]
    rw [List.getElem?_eq_getElem hl] at hj
    injection hj

theorem conv_rs (s : ByteArray) (w : World) (h : s.size ≤ 70368744177664) : ∃ cap w', (rs s).length ≤ cap ∧
    (convert 9 105 (.string s)).run Tryd.prog w = .ok (.slice (some ⟨w.heap.size, 0, none⟩) (rs s).length cap) w' ∧ Kept (fun _ => False) w w' ∧ w.heap.size < w'.heap.size ∧
    Rn w' (some ⟨w.heap.size, 0, none⟩) (rs s).length (rs s) := conv_rn s w (by have := rs_len s; unfold rs at this; omega)
end Go.Proofs.YthbfmdnibijapaaDoor
