/-
  WHETHER A TEXT HAS A NEWLINE OR BYTE 0: strings.ContainsAny, of whatever bytes.
-/
import Derived.Test.YtdgbaeliabaneaaDoorShelf3
import Derived.Test.YtdgbaeliabaneaaDoorRunes
import Derived.Test.YtdgbaeliabaneaaDoorKept
import Derived.Laws.Runes
import Derived.Laws.RangeString
import Derived.Deep.LoopGhost
import Derived.WalkMore
import Derived.BigQuiet
import Derived.Deep.CutBlock
import Derived.Deep.CutRange
set_option linter.unusedVariables false
namespace Go.Proofs.YtdgbaeliabaneaaDoor
open Go Go.RowKit

/-- The iterator set on. -/
def setIter (w : World) (g : Nat) (s : ByteArray) (pos : Nat) : World := { w with heap := w.heap.setIfInBounds g (.stringIter s pos) }
theorem run_next_at (w : World) (g : Nat) (s : ByteArray) (pos : Nat) (ty : TypeId) (hg : w.heap[g]? = some (.stringIter s pos)) (hp : pos < s.size) :
    (Instr.next (.pointer (some ⟨g, 0, none⟩)) true ty).run Tryd.prog w = .ok (.tuple #[.bool true, .int .i64 pos, .int .i32 (Utf8.decode s pos).1]) (setIter w g s (pos + (Utf8.decode s pos).2)) := by
  simp only [Instr.next, getObj, setObj, Sem.run_bind, Sem.run, hg, Result.andThen, hp, if_true]
  simp [goInt, setIter]
theorem run_next_done (w : World) (g : Nat) (s : ByteArray) (pos : Nat) (ty : TypeId) (hg : w.heap[g]? = some (.stringIter s pos)) (hp : ¬ pos < s.size) :
    (Instr.next (.pointer (some ⟨g, 0, none⟩)) true ty).run Tryd.prog w = .ok (.tuple #[.bool false]) w := by
  simp [Instr.next, getObj, Sem.run, hg, hp]
theorem iter_same {w : World} {g : Nat} {o : Obj} {s : ByteArray} {pos : Nat} (h : w.heap[g]? = some o) : (setIter w g s pos).heap[g]? = some (.stringIter s pos) := by
  have := heap_lt h
  simp [setIter, this]
theorem iter_far {w : World} {g b : Nat} {s : ByteArray} {pos : Nat} (h : b ≠ g) : (setIter w g s pos).heap[b]? = w.heap[b]? := by
  simp [setIter, Ne.symm h]
theorem Kept.iter (w : World) (g : Nat) (s : ByteArray) (pos : Nat) : Kept (fun b => b = g) w (setIter w g s pos) :=
  ⟨rfl, rfl, rfl, by simp [setIter], fun k _ hk => iter_far hk⟩
theorem iterPos_at {w : World} {g : Nat} {s : ByteArray} {pos : Nat} (h : w.heap[g]? = some (.stringIter s pos)) : w.iterPos g = pos := by
  unfold World.iterPos
  rw [h]
theorem wrap64_in' {l : Nat} (h : l ≤ 100) : wrap64 (((l + 1 : Nat) : Int) - 1) = (l : Int) := by
  rw [show ((l + 1 : Nat) : Int) - 1 = (l : Int) by omega]
  exact IntWalk.wrap64_in _ ⟨by omega, by omega⟩
theorem lays137 : Go.Proofs.Lays.n137 Tryd.prog Tryd.lays152_ren := { Tryd.lays152 with }
theorem idxb_any (s : ByteArray) (b : UInt8) (w : World) : Calls Tryd.prog 55 #[.string s, .int .u8 b.toNat] w fun e w' => e = .returned (.int .i64 (Lib.indexByte s.data.toList b)) ∧ w' = w := by
  have h := Any.strings_IndexByte lays137 s (b.toNat : Int) w
  rw [show ((b.toNat : Int)).toNat.toUInt8 = b by simp] at h
  exact h
theorem vrune_any (c : Int) (h : Utf8.valid c = true) (w : World) : Calls Tryd.prog 56 #[.int .i32 c] w fun e w' => e = .returned (.bool true) ∧ w' = w := by
  have hv := Utf.int_valid h
  clear h
  rcases hv with ⟨h1, h2⟩ | ⟨h1, h2⟩
  · have b1 : decide (0 ≤ c) = true := decide_eq_true h1
    have b2 : decide (c < 55296) = true := decide_eq_true h2
    go_enter Tryd.func56, Tryd.ntmps56
    go_wp2
    go_ret
    exact ⟨rfl, rfl⟩
  · have b1 : decide (0 ≤ c) = true := decide_eq_true (by omega)
    have b2 : decide (c < 55296) = false := decide_eq_false (by omega)
    have b3 : decide (57343 < c) = true := decide_eq_true (by omega)
    have b4 : decide (c ≤ 1114111) = true := decide_eq_true (by omega)
    go_enter Tryd.func56, Tryd.ntmps56
    go_wp2
    go_ret
    exact ⟨rfl, rfl⟩
theorem idxB_none {l : List UInt8} {b : UInt8} (h : ∀ x ∈ l, x.toNat < 128) (hb : 128 ≤ b.toNat) : Lib.indexByte l b = -1 := by
  induction l with
  | nil => rfl
  | cons x l ih =>
    have hx := h x (by simp)
    have hne : (x == b) = false := by
      rw [beq_eq_false_iff_ne]
      rintro rfl
      omega
    have := ih (fun y hy => h y (by simp [hy]))
    simp [Lib.indexByte, hne, this]
set_option maxRecDepth 100000 in
set_option maxHeartbeats 2000000 in
theorem idxr_err (s : ByteArray) (hs : ∀ x ∈ s.data.toList, x.toNat < 128) (hz : s.size ≤ 100) (w : World) :
    Calls Tryd.prog 51 #[.string s, .int .i32 65533] w fun e w' => e = .returned (.int .i64 (-1)) ∧ Kept (fun _ => False) w w' := by
  have HA := Lib.hid hs
  clear hs
  go_enter Tryd.func51, Tryd.ntmps51
  go_wp2_with fail
  go_loopg [5] s.size (fun g _ wx => ∃ i : Nat, i + g = s.size ∧ wx = w.iter s i)
  case atStart => exact ⟨0, by omega, rfl⟩
  case round =>
    obtain ⟨i, hig, rfl⟩ := hrel
    cases gk with
    | zero =>
      obtain rfl : i = s.size := by omega
      have hnx := run_next_end (P := Tryd.prog) w s s.size
      go_wp2
      go_ret
      exact ⟨rfl, (Kept.refl _ w).alloc _⟩
    | succ g =>
      have hi : i < s.size := by omega
      obtain ⟨x, hx⟩ : ∃ x : UInt8, s[i]'hi = x := ⟨_, rfl⟩
      have hx128 : x.toNat < 128 := HA.out x (by rw [← hx]; exact Array.getElem_mem_toList (xs := s.data) hi)
      have hnx := fun ty => run_next_ascii (P := Tryd.prog) w s i ty hi (by rw [hx]; exact hx128)
      rw [hx] at hnx
      have b1 : ((x.toNat : Int) == 65533) = false := by rw [beq_eq_false_iff_ne]; omega
      clear hx
      go_wp2
      go_roundg g
      case measure => omega
      case rel => exact ⟨i + 1, by omega, rfl⟩
set_option maxRecDepth 100000 in
set_option maxHeartbeats 2000000 in
theorem idxr_far (s : ByteArray) (hs : ∀ x ∈ s.data.toList, x.toNat < 128) (hz : s.size ≤ 100) (c : Int) (h1 : 128 ≤ c) (h2 : c ≠ 65533) (hv : Utf8.valid c = true) (w : World) :
    Calls Tryd.prog 51 #[.string s, .int .i32 c] w fun e w' => e = .returned (.int .i64 (-1)) ∧ Kept (fun _ => False) w w' := by
  obtain ⟨e1, e2, e3⟩ := encode_facts c hv h1
  have cV := vrune_any c hv w
  have hc := Utf.int_valid hv
  have b1 : decide (0 ≤ c) = true := decide_eq_true (by omega)
  have b2 : decide (c < 128) = false := decide_eq_false (by omega)
  have b3 : (c == 65533) = false := by rw [beq_eq_false_iff_ne]; exact h2
  have HA := Lib.hid hs
  have HE := Lib.hid e3
  clear hs hv h2 hc e3
  obtain ⟨l, hl⟩ : ∃ l, (Utf8.encode c).size = l + 1 := ⟨(Utf8.encode c).size - 1, by omega⟩
  obtain ⟨y, hy⟩ : ∃ y, (Utf8.encode c)[l]'(by omega) = y := ⟨_, rfl⟩
  have hy128 : 128 ≤ y.toNat := by
    have := HE.out (by omega)
    rw [← hy]
    simpa [hl] using this
  clear HE
  have b7 : wrap64 (((Utf8.encode c).size : Int) - 1) = (l : Int) := by rw [hl]; exact wrap64_in' (by omega)
  go_enter Tryd.func51, Tryd.ntmps51
  go_wp2_with (go_at_call 56; refine cV.mono ?_; rintro e w1 ⟨rfl, hw⟩; have hw2 := hw.symm; subst hw2)
  go_step3
  go_wp2_with fail
  go_loop [9] (fun v => v = .int .i64 (l : Int)) (fun _ => 0)
  case atStart => simp
  case round =>
    subst hrel
    by_cases hlt : l < s.size
    · obtain ⟨x, hx⟩ : ∃ x, s[l]'hlt = x := ⟨_, rfl⟩
      have hx128 : x.toNat < 128 := HA.out x (by rw [← hx]; exact Array.getElem_mem_toList (xs := s.data) hlt)
      have b4 : ((x.toNat : Int) != (y.toNat : Int)) = true := by rw [bne_iff_ne]; omega
      have cI := fun (W : World) => idxb_any (s.extract (l + 1) s.size) y W
      rw [show Lib.indexByte (s.extract (l + 1) s.size).data.toList y = -1 from idxB_none (fun b hb => HA.out b (mem_extract hb)) hy128] at cI
      have HCI := Lib.hid cI
      have b5 : decide (l < s.size) = true := decide_eq_true hlt
      have b6 : decide ((l : Int) < (s.size : Int)) = true := decide_eq_true (by omega)
      have t0 : IntKind.i64.wrap ((l : Int) + 1) = (l : Int) + 1 := IntWalk.i64_in _ ⟨by omega, by omega⟩
      have t1 : (0 : Int) ≤ (l : Int) + 1 := by omega
      have t2 : (l : Int) + 1 ≤ (s.size : Int) := by omega
      have t3 : ((l : Int) + 1).toNat = l + 1 := by omega
      have t4 : l + 1 ≤ s.size := by omega
      obtain ⟨sx, hsx⟩ : ∃ sx, s.extract (l + 1) s.size = sx := ⟨_, rfl⟩
      have hsl : ∀ u : World, (Instr.slice 9 (.string s) (some (.int .i64 ((l : Int) + 1))) none none).run Tryd.prog u = .ok (.string sx) u := fun u => by
        rw [← hsx]
        rw [run_slice_string_l (P := Tryd.prog) u 9 s Tryd.underlying9 .i64 ((l : Int) + 1) (by omega) (by omega), t3]
      rw [hsx] at HCI
      clear cI hsx
      go_wp2_with fail
      go_step3
      go_upto_region 6 with fail
      go_quiet (fail)
      generalize hW : w.drewN _ = w1
      have HW : Hid (Kept (fun _ => False) w w1) := by show Kept _ w w1; rw [← hW]; exact (Kept.refl _ w).drewN _
      clear hW
      go_upto_region 7 with fail
      go_quiet ((go_at_call 55; exact Calls.quiet_of_same (HCI.out _)))
      go_wp2_with fail
      show bodyPost Tryd.prog Tryd.f51 (fun e w' => e = .returned (.int .i64 (-1)) ∧ Kept (fun _ => False) w w') .ret _ _
      go_ret
      exact ⟨rfl, HW.out.drewN _⟩
    · have b5 : decide (l < s.size) = false := decide_eq_false hlt
      have b6 : decide ((l : Int) < (s.size : Int)) = false := decide_eq_false (by omega)
      go_wp2_with fail
      go_ret
      exact ⟨rfl, Kept.refl _ w⟩
theorem enc_high (n : Int) (h : Utf8.valid n = true) (h128 : 128 ≤ n) : ∀ b ∈ Utf.enc n, 128 ≤ b.toNat := by
  have hv := Utf.int_valid h
  obtain ⟨c, rfl⟩ := Int.eq_ofNat_of_zero_le (show 0 ≤ n by omega)
  rw [Utf.enc_of h]
  intro b hb
  rw [if_neg (by omega)] at hb
  by_cases h2 : c < 2048
  · rw [if_pos h2] at hb
    simp only [List.mem_cons, List.not_mem_nil, or_false] at hb
    rcases hb with rfl | rfl
    · rw [Utf.toNat_ofNat (by omega)]; omega
    · rw [Utf.toNat_ofNat (by omega)]; omega
  rw [if_neg h2] at hb
  by_cases h3 : c < 65536
  · rw [if_pos h3] at hb
    simp only [List.mem_cons, List.not_mem_nil, or_false] at hb
    rcases hb with rfl | rfl | rfl
    · rw [Utf.toNat_ofNat (by omega)]; omega
    · rw [Utf.toNat_ofNat (by omega)]; omega
    · rw [Utf.toNat_ofNat (by omega)]; omega
  rw [if_neg h3] at hb
  simp only [List.mem_cons, List.not_mem_nil, or_false] at hb
  rcases hb with rfl | rfl | rfl | rfl
  · rw [Utf.toNat_ofNat (by omega)]; omega
  · rw [Utf.toNat_ofNat (by omega)]; omega
  · rw [Utf.toNat_ofNat (by omega)]; omega
  · rw [Utf.toNat_ofNat (by omega)]; omega
/-- A rune of more than one byte, or none: its bytes are all high. -/
theorem high_step (s : ByteArray) (pos : Nat) (h : pos < s.size) (hx : 128 ≤ (s[pos]'h).toNat) :
    (128 : Int) ≤ ((Utf8.decode s pos).1 : Int) ∧ Utf8.valid ((Utf8.decode s pos).1 : Int) = true ∧ 1 ≤ (Utf8.decode s pos).2 ∧
    ∀ (j : Nat) b, pos ≤ j → j < pos + (Utf8.decode s pos).2 → s.data.toList[j]? = some b → 128 ≤ b.toNat := by
  have hw := Lib.decode_width_pos s pos h
  have hxl : s.data.toList[pos]? = some (s[pos]'h) := Lib.data_getElem? s pos h
  have hd := Lib.decodeL_drop s pos
  have hl := Lib.size_eq s
  obtain ⟨l, hl'⟩ : ∃ l, s.data.toList.drop pos = l := ⟨_, rfl⟩
  rw [hl'] at hd
  have h0 : l[0]? = some (s[pos]'h) := by rw [← hl', List.getElem?_drop]; simpa using hxl
  have hne : l ≠ [] := by intro e; rw [e] at h0; cases h0
  rw [← hd] at hw ⊢
  by_cases hb : (Lib.decodeL l).1 = 65533 ∧ (Lib.decodeL l).2 = 1
  · refine ⟨by omega, by rw [hb.1]; decide, by omega, fun j b h1 h2 hj => ?_⟩
    obtain rfl : j = pos := by omega
    rw [hxl] at hj
    cases hj
    exact hx
  · obtain ⟨hv, he⟩ := Utf.enc_decodeL l hne hb
    have hc : (128 : Int) ≤ ((Lib.decodeL l).1 : Int) := by
      by_cases hc : (128 : Int) ≤ ((Lib.decodeL l).1 : Int)
      · exact hc
      · rw [Utf.enc_of hv, if_pos (by omega)] at he
        rw [he] at h0
        simp only [List.singleton_append, List.getElem?_cons_zero, Option.some.injEq] at h0
        rw [← h0, Utf.toNat_ofNat (by omega)] at hx
        omega
    refine ⟨hc, hv, by omega, fun j b h1 h2 hj => ?_⟩
    have hk : (Lib.decodeL l).2 ≤ (Utf.enc ((Lib.decodeL l).1 : Int)).length := by
      have e := congrArg List.length he
      rw [List.length_append, List.length_drop] at e
      have hp : 0 < l.length := List.length_pos_iff.2 hne
      have hle : (Lib.decodeL l).2 ≤ l.length := by
        have hN := Lib.decodeL_N l
        rcases Utf.decodeN_cases l.length (l.getD 0 0).toNat (l.getD 1 0).toNat (l.getD 2 0).toNat (l.getD 3 0).toNat (UInt8.toNat_lt _) (UInt8.toNat_lt _) (UInt8.toNat_lt _) (UInt8.toNat_lt _) with h | ⟨h1, h⟩ | ⟨c, h, hn, _⟩ | ⟨c, h, hn, _⟩ | ⟨c, h, hn, _⟩ <;> rw [h] at hN <;> rw [hN] <;> (show _ ≤ l.length; omega)
      omega
    have hj2 : l[j - pos]? = some b := by rw [← hl', List.getElem?_drop, show pos + (j - pos) = j by omega]; exact hj
    rw [he, List.getElem?_append_left (by omega)] at hj2
    exact enc_high _ hv hc b (List.mem_of_getElem? hj2)
theorem idxr_high (ch : ByteArray) (hs : ∀ x ∈ ch.data.toList, x.toNat < 128) (hz : ch.size ≤ 100) (c : Int) (h1 : 128 ≤ c) (hv : Utf8.valid c = true) (w : World) :
    Calls Tryd.prog 51 #[.string ch, .int .i32 c] w fun e w' => e = .returned (.int .i64 (-1)) ∧ Kept (fun _ => False) w w' := by
  by_cases h2 : c = 65533
  · subst h2; exact idxr_err ch hs hz w
  · exact idxr_far ch hs hz c h1 h2 hv w
theorem lays226 : Go.Proofs.Lays.n226 Tryd.prog Tryd.lays153_ren := { Tryd.lays153 with }
theorem useset_any (n : Int) (w : World) : Calls Tryd.prog 52 #[.int .i64 n] w fun e w' => e = .returned (.bool (decide (8 < n))) ∧ w' = w := Any.strings_shouldUseASCIISet lays226 n w
set_option maxRecDepth 100000 in
set_option maxHeartbeats 4000000 in
theorem idxany_short (s ch : ByteArray) (w : World) (hch : ∀ x ∈ ch.data.toList, x.toNat < 128) (hz : ch.size ≤ 100) (h2 : 2 ≤ ch.size) (h8 : s.size ≤ 8) :
    Calls Tryd.prog 48 #[.string s, .string ch] w fun e w' => e = .returned (.int .i64 (Lib.indexAny s.data.toList ch.data.toList)) ∧ Kept (fun _ => False) w w' := by
  have hemp : ch.toList.isEmpty = false := by
    rw [Lib.toList_data]
    cases h : ch.data.toList with
    | nil => have := Lib.size_eq ch; rw [h, List.length_nil] at this; omega
    | cons _ _ => rfl
  have hn1 : ((ch.size : Int) == 1) = false := beq_eq_false_iff_ne.2 (by omega)
  have h8z : decide ((8 : Int) < (s.size : Int)) = false := decide_eq_false (by omega)
  have cU := useset_any (s.size : Int) w
  rw [h8z] at cU
  have HCH := Lib.hid hch
  have HZ := Lib.hid hz
  clear hch hz h8z
  go_enter Tryd.func48, Tryd.ntmps48
  go_wp2_with (go_at_call 52; refine cU.mono ?_; rintro e w' ⟨rfl, hw⟩; have hw2 := hw.symm; subst hw2; clear cU)
  go_loopg [9, 10] s.size (fun g _ _ wx => ∃ i : Nat, s.size ≤ i + g ∧ wx.heap[w.heap.size]? = some (.stringIter s i) ∧ Kept (fun _ => False) w wx ∧ Lib.NoAny s.data.toList ch.data.toList i)
  case atStart => exact ⟨0, by omega, heap_alloc_new w _, (Kept.refl _ w).alloc _, Lib.NoAny.zero _ _⟩
  case round =>
    obtain ⟨i, hig, hit, hkp, hno⟩ := hrel
    have HN := Lib.hid hno
    have HK := Lib.hid hkp
    have HIT := Lib.hid hit
    clear hno hkp
    by_cases hp : i < s.size
    · obtain ⟨g, rfl⟩ : ∃ g, gk = g + 1 := ⟨gk - 1, by omega⟩
      obtain ⟨x, hx⟩ : ∃ x : UInt8, s[i]'hp = x := ⟨_, rfl⟩
      have hxl : s.data.toList[i]? = some x := by rw [← hx]; exact Lib.data_getElem? s i hp
      have Hx := Lib.hid hxl
      have hnx := fun ty => run_next_at wr w.heap.size s i ty hit hp
      by_cases hx2 : 128 ≤ x.toNat
      · obtain ⟨h1, hv, hw1, hb⟩ := high_step s i hp (by rw [hx]; exact hx2)
        have HB : Hid (Lib.NoAny s.data.toList ch.data.toList (i + (Utf8.decode s i).2)) := by
          intro j b hj hjb
          by_cases hji : j < i
          · exact HN.out j b hji hjb
          · have h128 := hb j b (by omega) hj hjb
            rw [← Bool.not_eq_true, List.contains_iff_mem]
            intro hm
            have := HCH.out b hm
            omega
        generalize (Utf8.decode s i).1 = C at *
        generalize (Utf8.decode s i).2 = K at *
        have HIS := Lib.hid (iter_same (s := s) (pos := i + K) hit)
        have HKS := Lib.hid (HK.out.fresh (Kept.iter wr w.heap.size s (i + K)) (fun q h1 h2 => by omega))
        have cI := fun W => idxr_high ch HCH.out HZ.out (C : Int) h1 hv W
        clear hb hxl hx hit h1 hv hx2
        go_wp2_with (go_at_call 51; refine (cI _).mono ?_; rintro e w2 ⟨rfl, hk2⟩; have HK2 := Lib.hid (HKS.out.trans hk2); have HI2 := Lib.hid ((hk2.block _ (heap_lt HIS.out) id).trans HIS.out); clear hk2 cI)
        go_roundg g
        case measure => omega
        case rel => exact ⟨i + K, by omega, HI2.out, HK2.out, HB.out⟩
      · have hd := decode_ascii s i hp (by rw [hx]; omega)
        rw [hx] at hd
        rw [hd] at hnx
        have HIS := Lib.hid (iter_same (s := s) (pos := i + 1) hit)
        have HKS := Lib.hid (HK.out.fresh (Kept.iter wr w.heap.size s (i + 1)) (fun q h1 h2 => by omega))
        have cI := fun W => Any.strings_IndexRune_ascii Tryd.lays152 ch (x.toNat : Int) W (by omega) (by omega)
        have hback : ((x.toNat : Int)).toNat.toUInt8 = x := by simp
        rw [hback] at cI
        have hcon := Lib.contains_iff_indexByte ch.data.toList x
        have cI2 : ∀ W, Calls Tryd.prog 51 #[.string ch, .int .i32 (x.toNat : Int)] W fun e w' => e = .returned (.int .i64 (Lib.indexByte ch.data.toList x)) ∧ w' = W := cI
        clear hxl hx hit hd hback cI hx2
        cases hin : ch.data.toList.contains x
        · rw [hin] at hcon
          have hlt : ¬ ((0 : Int) ≤ Lib.indexByte ch.data.toList x) := of_decide_eq_false hcon.symm
          have hlt2 : decide ((0 : Int) ≤ Lib.indexByte ch.data.toList x) = false := hcon.symm
          have HB := Lib.hid (HN.out.succ Hx.out hin)
          clear hcon hin
          go_wp2_with (go_at_call 51; refine (cI2 _).mono ?_; rintro e w2 ⟨rfl, hw⟩; have hw2 := hw.symm; subst hw2)
          go_roundg g
          case measure => omega
          case rel => exact ⟨i + 1, by omega, HIS.out, HKS.out, HB.out⟩
        · rw [hin] at hcon
          have hge : (0 : Int) ≤ Lib.indexByte ch.data.toList x := of_decide_eq_true hcon.symm
          have hge2 : decide ((0 : Int) ≤ Lib.indexByte ch.data.toList x) = true := hcon.symm
          have HE := Lib.hid (Lib.indexAny_hit HN.out Hx.out hin)
          clear hcon hin
          go_wp2_with (go_at_call 51; refine (cI2 _).mono ?_; rintro e w2 ⟨rfl, hw⟩; have hw2 := hw.symm; subst hw2)
          go_ret
          exact ⟨by rw [HE.out]; rfl, HKS.out⟩
    · have hnx := fun ty => run_next_done wr w.heap.size s i ty hit hp
      have HE : Hid (Lib.indexAny s.data.toList ch.data.toList = -1) := Lib.indexAny_none (fun j b hj hjb => HN.out j b (by rw [← Lib.size_eq] at hj; omega) hjb)
      clear hit
      go_wp2
      go_ret
      exact ⟨by rw [HE.out]; rfl, HK.out⟩
theorem lays116 : (Tryd.prog.info? (Tryd.lays153_ren.t 116)).map (fun i => (i.zero, i.size)) = some (some (.agg (Array.replicate 256 (.bool false))), 256) := by kernel_rfl
theorem idxany_any (s ch : ByteArray) (w : World) (hch : ∀ x ∈ ch.data.toList, x.toNat < 128) (hz : ch.size ≤ 100) (h2 : 2 ≤ ch.size) (hs : s.size ≤ 4000000000) :
    Calls Tryd.prog 48 #[.string s, .string ch] w fun e w' => e = .returned (.int .i64 (Lib.indexAny s.data.toList ch.data.toList)) ∧ Kept (fun _ => False) w w' := by
  by_cases h8 : s.size ≤ 8
  · exact idxany_short s ch w hch hz h2 h8
  · have h := Any.strings_IndexAny_long Tryd.lays153 (zero_of_info lays116).1 (zero_of_info lays116).2 s ch w h2 (by omega) (by omega) (by omega) (fun j b hj => hch b (List.mem_of_getElem? hj))
    exact h.mono fun e w' ⟨he, hw⟩ => ⟨he, by rw [hw]; exact ((Kept.refl _ w).alloc _).alloc _⟩
/-- Has a newline, or byte 0. -/
def hasNZ (s : ByteArray) : Bool := s.data.toList.any (fun b => b == 10 || b == 0)
def nzs : ByteArray := ⟨#[10, 0]⟩
theorem nz_any (l : List UInt8) : decide (0 ≤ Lib.indexAny l [10, 0]) = l.any (fun b => b == 10 || b == 0) := by
  induction l with
  | nil => rfl
  | cons b l ih =>
    have hge := Lib.indexAny_ge [10, 0] l
    rw [Lib.indexAny, List.any_cons, ← ih]
    have e : ([10, 0] : List UInt8).contains b = (b == 10 || b == 0) := by rw [Bool.eq_iff_iff]; simp
    rw [e]
    cases (b == 10 || b == 0) with
    | true => simp
    | false =>
      simp only [Bool.false_eq_true, if_false, Bool.false_or]
      split
      · rename_i h; rw [beq_iff_eq] at h; rw [h]
      · rename_i h
        have : Lib.indexAny l [10, 0] ≠ -1 := fun e => h (by rw [e]; rfl)
        rw [decide_eq_true (by omega), decide_eq_true (by omega)]
set_option maxRecDepth 100000 in
theorem contains_any (s : ByteArray) (w : World) (hs : s.size ≤ 4000000000) :
    Calls Tryd.prog 41 #[.string s, .string ⟨#[10, 0]⟩] w fun e w' => e = .returned (.bool (hasNZ s)) ∧ Kept (fun _ => False) w w' := by
  have cI := idxany_any s ⟨#[10, 0]⟩ w (by decide) (by decide) (by decide) hs
  have hE : decide (0 ≤ Lib.indexAny s.data.toList [10, 0]) = hasNZ s := nz_any _
  have cI2 : Calls Tryd.prog 48 #[.string s, .string ⟨#[10, 0]⟩] w fun e w' => e = .returned (.int .i64 (Lib.indexAny s.data.toList [10, 0])) ∧ Kept (fun _ => False) w w' := cI
  rw [← hE]
  generalize Lib.indexAny s.data.toList [10, 0] = E at *
  clear hE cI
  go_enter Tryd.func41, Tryd.ntmps41
  go_wp2_with (go_at_call 48; refine cI2.mono ?_; rintro e w2 ⟨rfl, hk2⟩; clear cI2)
  go_ret
  exact ⟨rfl, hk2⟩
end Go.Proofs.YtdgbaeliabaneaaDoor
