/-
  THE PROGRAM's Apply: where a rune stands, what stands ahead and behind, the pieces joined.
-/
import Derived.Test.YthbfmdnibijapaaDoorPbP
import Derived.Test.YthbfmdnibijapaaDoorShelf2
import Derived.Shelf.Strings.Search3
import Derived.Shelf.Strings.OnBuilder
import Derived.BigQuiet
set_option linter.unusedVariables false
namespace Go.Proofs.YthbfmdnibijapaaDoor
open Go Go.RowKit

set_option maxRecDepth 100000 in
theorem pbyteOf_yes (t : List Int) (k : Nat) (w : World) (hv : Vld t) (hsz : (runesBytes t).size ≤ 4000) (hk : k ≤ t.length) :
    Calls Tryd.prog 79 #[.string (runesBytes t), .int .i64 k] w fun e w' => e = .returned (.int .i64 (bpos t k)) ∧ Kept (fun _ => False) w w' := by
  have hlt := fun j (h : j < t.length) => bpos_lt (t := t) (j := j) h
  have hst := fun j x (h : t[j]? = some x) => (bpos_step h).trans (by rw [← bpos_decode hv h])
  have hlen : k ≤ 4000 := by
    have h1 : ∀ l : List Int, l.length ≤ (Utf.bytes l).length := fun l => by
      induction l with
      | nil => exact Nat.le_refl _
      | cons c l ih => show _ ≤ (Utf.enc c ++ Utf.bytes l).length; have := (Utf.enc_length c).1; rw [List.length_append, List.length_cons]; omega
    have := h1 t
    rw [txt_size] at hsz
    omega
  have hall := fun (h : t.length ≤ k) => bpos_all h
  have HLT := Lib.hid hlt
  have HST := Lib.hid hst
  have HALL := Lib.hid hall
  have hz0 := bpos_zero t
  have HZ0 := Lib.hid hz0
  obtain ⟨BP, hBP⟩ : ∃ BP, bpos t = BP := ⟨_, rfl⟩
  simp only [hBP] at HLT HST HALL HZ0 ⊢
  clear hlt hst hall hz0 hBP hv
  generalize runesBytes t = s at *
  have HI0 : Hid ((w.alloc (.stringIter s 0)).heap[w.heap.size]? = some (.stringIter s 0)) := heap_alloc_new w _
  have HK0 : Hid (Kept (fun _ => False) w (w.alloc (.stringIter s 0))) := (Kept.refl _ w).alloc _
  go_enter Tryd.func79, Tryd.ntmps79
  go_wp2
  unfold World.iter
  generalize w.alloc (.stringIter s 0) = W at *
  obtain ⟨gi, hgi⟩ : ∃ gi, w.heap.size = gi := ⟨_, rfl⟩
  have HGI := Lib.hid hgi
  simp only [hgi] at HI0 ⊢
  clear hgi
  go_loopw [1] (fun v wr => ∃ j m : Nat, j + m = k ∧ v = .int .i64 m ∧ wr.heap[gi]? = some (.stringIter s (BP j)) ∧ Kept (fun _ => False) w wr) (fun _ wr => s.size - wr.iterPos gi)
  case atStart => exact ⟨0, k, by omega, rfl, by rw [HZ0.out]; exact HI0.out, HK0.out⟩
  case round =>
    obtain ⟨j, m, hjm, rfl, hi, hkw⟩ := hrel
    have hpos := iterPos_at hi
    have HKW := Lib.hid hkw
    have HI := Lib.hid hi
    have HPOS := Lib.hid hpos
    clear hkw hi hpos
    by_cases hps : j < t.length
    · obtain ⟨x, hx⟩ : ∃ x, t[j]? = some x := ⟨_, List.getElem?_eq_getElem hps⟩
      have hp := HLT.out j hps
      have hs2 := HST.out j x hx
      have hnx : ∀ ty, (Instr.next (.pointer (some ⟨gi, 0, none⟩)) true ty).run Tryd.prog wr = _ := fun ty => run_next_at wr gi s (BP j) ty HI.out hp
      have hwd := Lib.decode_width_pos s (BP j) hp
      have HI2 := Lib.hid (iter_same (s := s) (pos := BP j + (Utf8.decode s (BP j)).2) HI.out)
      have HK2 : Hid (Kept (fun _ => False) w (setIter wr gi s (BP j + (Utf8.decode s (BP j)).2))) := HKW.out.fresh (Kept.iter wr gi s _) (fun b hb e => by have := HGI.out; omega)
      have HP2 := Lib.hid (iterPos_at HI2.out)
      have HS2 := Lib.hid hs2
      clear hs2 hx
      generalize (Utf8.decode s (BP j)).2 = wd at *
      generalize setIter wr gi s (BP j + wd) = W2 at *
      by_cases hm0 : m = 0
      · subst hm0
        obtain rfl : j = k := by omega
        go_wp2
        go_ret
        exact ⟨rfl, HK2.out⟩
      · obtain ⟨m', rfl⟩ : ∃ m', m = m' + 1 := ⟨m - 1, by omega⟩
        have e1 : (((m' + 1 : Nat) : Int) == 0) = false := by rw [beq_eq_false_iff_ne]; omega
        go_wp2
        go_roundw
        case rel => exact ⟨j + 1, m', by omega, by go_num, by rw [HS2.out]; exact HI2.out, HK2.out⟩
        case measure => rw [HP2.out, HPOS.out]; omega
    · have hjk : j = k := by omega
      have hm0 : m = 0 := by omega
      subst hm0
      have hend : BP j = s.size := by rw [hjk]; exact HALL.out (by omega)
      have hnx : ∀ ty, (Instr.next (.pointer (some ⟨gi, 0, none⟩)) true ty).run Tryd.prog wr = _ := fun ty => run_next_done wr gi s (BP j) ty HI.out (by omega)
      have hfin : Hid (BP k = s.size) := by show _ = _; rw [← hjk]; exact hend
      clear hps hend hjk
      go_wp2
      go_ret
      exact ⟨by rw [hfin.out]; rfl, HKW.out⟩
set_option maxRecDepth 100000 in
theorem plen_yes (s : ByteArray) (w : World) (hT : Tabs w) (hm : mayB s = true) :
    Calls Tryd.prog 77 #[.string s] w fun e w' => e = .returned (.tuple #[.int .i64 (rs s).length, .int .i64 0]) ∧ Kept (fun _ => False) w w' := by
  have hsz := mayB_size hm
  have cC := check_any s w (by omega) hT
  rw [hm] at cC
  have cN := fun W => rcount_any s W (by omega)
  clear hT hm
  go_enter Tryd.func77, Tryd.ntmps77
  go_wp2_with (first
    | (go_at_call 48; refine cC.mono ?_; rintro e w1 ⟨rfl, hk1⟩)
    | (go_at_call 86; refine (cN _).mono ?_; rintro e w2 ⟨rfl, hk2⟩))
  exact bodyPost_ret (v := .tuple #[.int .i64 (rs s).length, .int .i64 0]) (by simp [results, Tryd.results77, go_sem]) rfl ⟨rfl, hk1.trans hk2⟩
theorem pcontains_no (s : ByteArray) (w : World) (h : ∀ b ∈ s.data.toList, b ≠ 0) : Calls Tryd.prog 78 #[.string s, .string ⟨#[0]⟩] w fun e w' => e = .returned (.bool false) ∧ w' = w := by
  have c := Any.strings_Contains_one Tryd.lays144 s 0 w
  rw [← Lib.contains_iff_indexByte, show s.data.toList.contains 0 = false by
    rw [List.contains_eq_mem]
    simp only [decide_eq_false_iff_not]
    exact fun hm => h 0 hm rfl] at c
  exact c
theorem extraB' : Builder.Extra Tryd.prog Tryd.lays156_ren where
  sizeBuilder := by kernel_rfl
  liesBuilder := by kernel_rfl
  t5 := by kernel_rfl
  a5 := Tryd.isAgg5
  z5 := Tryd.sizeOf5
  v5 := Tryd.zeroValue5
  infoByte := by kernel_rfl
  cellsByte := by kernel_rfl
  sizeByte := by kernel_rfl
  neB5 := by decide
theorem join3_any (x y z : List Int) (w : World) (hl : (runesBytes (x ++ y ++ z)).size ≤ 1000000) :
    Calls Tryd.prog 67 #[.slice (some ⟨w.heap.size, 0, none⟩) 3 3, .string ⟨#[]⟩] (w.alloc (.cells #[.string (runesBytes x), .string (runesBytes y), .string (runesBytes z)] 9)) fun e w' => e = .returned (.string (runesBytes (x ++ y ++ z))) ∧ Kept (fun _ => False) w w' := by
  have hj : (Lib.join ([runesBytes x, runesBytes y, runesBytes z].map (·.data.toList)) (⟨#[]⟩ : ByteArray).data.toList) = Utf.bytes (x ++ y ++ z) := by
    rw [Utf.bytes_append, Utf.bytes_append]
    simp [Lib.join, List.intercalate, txt_list]
  have hH := heap_alloc_new w (.cells #[.string (runesBytes x), .string (runesBytes y), .string (runesBytes z)] 9)
  have hc : ∀ (j : Nat) u, [runesBytes x, runesBytes y, runesBytes z][j]? = some u → (w.alloc (.cells #[.string (runesBytes x), .string (runesBytes y), .string (runesBytes z)] 9)).cell? ⟨w.heap.size, 0 + j, none⟩ = some (.string u) := by
    intro j u hj
    rw [Nat.zero_add, cell_of_row _ _ _ _ _ _ hH]
    match j, hj with
    | 0, hj => injection hj with hj; subst hj; rfl
    | 1, hj => injection hj with hj; subst hj; rfl
    | 2, hj => injection hj with hj; subst hj; rfl
    | _ + 3, hj => cases hj
  have h := Any.strings_Join Tryd.lays156 extraB' w.heap.size 0 3 [runesBytes x, runesBytes y, runesBytes z] ⟨#[]⟩ (w.alloc (.cells #[.string (runesBytes x), .string (runesBytes y), .string (runesBytes z)] 9)) hc (heap_lt hH) (by show 3 ≤ 140737488355328; decide) (by show 3 ≤ 3; decide) (by
    rw [hj, ← txt_size]
    omega)
  rw [hj, ← txt_list, show (⟨((runesBytes (x ++ y ++ z)).data.toList).toArray⟩ : ByteArray) = runesBytes (x ++ y ++ z) from rfl] at h
  exact h.mono fun e w' ⟨he, hk⟩ => ⟨he, ((Kept.refl _ w).alloc _).trans (Kept.of_below hk)⟩
end Go.Proofs.YthbfmdnibijapaaDoor
