/-
  THE GAP BUFFER: it is made of a text.
-/
import Derived.Test.YthhlchgnjdfpeaaDoorTabs
import Derived.Laws.RangeString
import Derived.Laws.RangeAny
import Derived.Lib.RuneCount
set_option linter.unusedVariables false
namespace Go.Proofs.YthhlchgnjdfpeaaDoor
open Go Go.RowKit

theorem rune_at (s : ByteArray) (pos : Nat) (h : pos < s.size) : Utf.runes (s.data.toList.drop pos) = ((Utf8.decode s pos).1 : Int) :: Utf.runes (s.data.toList.drop (pos + (Utf8.decode s pos).2)) := by
  have hne : s.data.toList.drop pos ≠ [] := by
    intro e
    have := congrArg List.length e
    rw [List.length_drop] at this
    have := Lib.size_eq s
    simp at *
    omega
  rw [Utf.runes_step _ hne, Lib.decodeL_drop, List.drop_drop]
theorem rune_end (s : ByteArray) (pos : Nat) (h : ¬ pos < s.size) : Utf.runes (s.data.toList.drop pos) = [] := by
  rw [List.drop_eq_nil_of_le (by have := Lib.size_eq s; omega)]
  rfl
theorem conv_runes (s : ByteArray) (w : World) (h : (Utf.runes s.data.toList).length ≤ 70368744177664) : ∃ cap w', (Utf.runes s.data.toList).length ≤ cap ∧
    (convert 9 34 (.string s)).run Tryd.prog w = .ok (.slice (some ⟨w.heap.size, 0, none⟩) (Utf.runes s.data.toList).length cap) w' ∧ Kept (fun _ => False) w w' ∧ w.heap.size < w'.heap.size ∧
    CB w' w.heap.size (Utf.runes s.data.toList ++ List.replicate (cap - (Utf.runes s.data.toList).length) 0) := by
  have e := Utf.convRunes_eq s
  have hz : (Conv.runesFrom s s.size 0 #[]).size = (Utf.runes s.data.toList).length := by rw [e]; simp
  have hrun := run_runes_of_string (P := Tryd.prog) w 9 34 21 s Tryd.underlying9 Tryd.underlying34 Tryd.underlying21 (by rw [hz]; exact h)
  rw [hz] at hrun
  refine ⟨_, _, ?_, hrun, ((Kept.refl _ w).drew).alloc _, by simp, ?_⟩
  · have := grownCap_ge w (Utf.runes s.data.toList).length 0 21
    omega
  · unfold CB
    have : (w.drew.alloc (.cells (Conv.runesFrom s s.size 0 #[] ++ Array.replicate (grownCap w (Utf.runes s.data.toList).length 0 21 - (Utf.runes s.data.toList).length) (.int .i32 0)) 21)).heap[w.heap.size]? = _ := heap_alloc_new w.drew _
    rw [this, e]
    simp
/-- Behind so many runes of a range over a string. -/
def RangeRel (w : World) (s : ByteArray) (R : List Int) (v : Value) (wr : World) : Prop :=
  ∃ (pos : Nat) (pre : List Int), wr = w.iter s pos ∧ v = .int .i64 (pre.length : Nat) ∧ R = pre ++ Utf.runes (s.data.toList.drop pos) ∧ (∀ r ∈ pre, May r)

set_option maxHeartbeats 1000000 in
theorem new_yes (s : ByteArray) (room : Nat) (w : World) (hs : s.size ≤ 140737488351232) (hT : Tabs w) (hv : Lib.validD s.data.toList = true) (hmay : ∀ r ∈ Utf.runes s.data.toList, May r)
    (hroom : room ≤ 1100) (hfit : (Utf.runes s.data.toList).length ≤ room) :
    Calls Tryd.prog 6 #[.int .i64 room, .string s] w fun e w' => Kept (fun _ => False) w w' ∧ ∃ rb cb n c zs, w.heap.size ≤ rb ∧ w.heap.size ≤ cb ∧
      e = .returned (.tuple #[.pointer (some ⟨rb, 0, none⟩), .int .i64 0]) ∧ GS w' rb room cb n c 0 0 0 zs (Utf.runes s.data.toList) := by
  have cV := valid_any s w (by omega) hT
  rw [hv] at cV
  have HM := Lib.hid hmay
  have HF := Lib.hid hfit
  have HT := Lib.hid hT
  have HV := Lib.hid hv
  have b0 : decide ((room : Int) < 0) = false := by simp
  have b1 : decide ((1100 : Int) < (room : Int)) = false := by simp; omega
  clear hmay hfit hT hv
  generalize hR : Utf.runes s.data.toList = R at HM HF ⊢
  have HR := Lib.hid hR
  clear hR
  go_enter Tryd.func6, Tryd.ntmps6
  go_wp2_with (go_at_call 24; refine cV.mono ?_; rintro e w1 ⟨rfl, hk1⟩)
  clear cV
  have HK1 := Lib.hid hk1
  clear hk1
  go_loopw [6] (fun v wr => RangeRel w1 s R v wr) (fun _ wr => s.size - wr.iterPos w1.heap.size)
  case atStart => exact ⟨0, [], rfl, rfl, by rw [List.drop_zero, HR.out]; rfl, fun r hr => by cases hr⟩
  case round =>
    obtain ⟨pos, pre, rfl, rfl, hpre, hm⟩ := hrel
    have HP := Lib.hid hpre
    have HMP := Lib.hid hm
    clear hpre hm
    have hpl : pre.length ≤ 1100 := by have := congrArg List.length HP.out; rw [List.length_append] at this; have := HF.out; omega
    by_cases hp : pos < s.size
    · have hnx : ∀ ty, (Instr.next (.pointer (some ⟨w1.heap.size, 0, none⟩)) true ty).run Tryd.prog (w1.iter s pos) = _ := fun ty => run_next_any w1 s pos ty hp
      have hwd := Lib.decode_width_pos s pos hp
      have hrune := Lib.rune_le s pos
      have hr := rune_at s pos hp
      have hmay : May ((Utf8.decode s pos).1 : Int) := HM.out _ (by rw [HP.out, hr]; simp)
      have HRA := Lib.hid hr
      clear hr
      go_wp2_with (go_at_call 25; refine (may_yes _ hmay _).mono ?_; rintro e w' ⟨rfl, rfl⟩)
      go_roundw
      case rel =>
        refine ⟨pos + (Utf8.decode s pos).2, pre ++ [((Utf8.decode s pos).1 : Int)], rfl, by simp, by rw [HP.out, HRA.out]; simp, fun r hr => ?_⟩
        rcases List.mem_append.1 hr with h | h
        · exact HMP.out r h
        · simp at h
          subst h
          exact hmay
      case measure =>
        simp
        omega
    · have hnx : ∀ ty, (Instr.next (.pointer (some ⟨w1.heap.size, 0, none⟩)) true ty).run Tryd.prog (w1.iter s pos) = _ := fun ty => run_next_end w1 s pos ty hp
      have he := rune_end s pos hp
      have hlen : pre.length ≤ room := by have := HF.out; rw [HP.out, he] at this; simpa using this
      have hpre : Hid (R = pre) := by
        have h := HP.out
        rw [he, List.append_nil] at h
        exact h
      clear he HP
      have b2 : decide (room < pre.length) = false := by simp; omega
      obtain ⟨cap, w2, hcap, hcv, hk2, hlt2, hcb⟩ := conv_runes s (w1.iter s pos) (by rw [HR.out]; have := HF.out; omega)
      rw [HR.out, hpre.out] at hcv hcb
      rw [HR.out, hpre.out] at hcap
      have HK2 := Lib.hid (((Kept.refl (fun _ => False) w1).alloc (.stringIter s pos)).trans hk2)
      have HCB := Lib.hid hcb
      have hsz : (w1.iter s pos).heap.size = w1.heap.size + 1 := by simp [World.iter]
      rw [hsz] at hcv hlt2
      have HSZ := Lib.hid hsz
      clear hk2 hcb hsz
      go_wp2
      have hs1 := HK1.out.size
      have hs2 := HK2.out.size
      refine bodyPost_ret (v := .tuple #[.pointer (some ⟨w2.heap.size, 0, none⟩), .int .i64 0]) (by simp [results, Tryd.results6, go_sem]) rfl ⟨(HK1.out.trans HK2.out).alloc _, w2.heap.size, w1.heap.size + 1, pre.length, cap, pre ++ List.replicate (cap - pre.length) 0, by omega, by omega, rfl, ?_⟩
      have HCB' := HCB.out
      rw [HSZ.out] at HCB'
      rw [hpre.out]
      refine ⟨?_, ?_, ?_, Nat.le_refl _, by omega, hcap, hlen, by omega, by omega, ?_⟩
      · unfold RB
        rw [heap_alloc_new]
        rfl
      · exact HCB'.kept ((Kept.refl (fun _ => False) w2).alloc _) (fun h => h)
      · simp
        omega
      · unfold tx
        simp
end Go.Proofs.YthhlchgnjdfpeaaDoor
