/-
  utf8.ValidString, by the library's contract; Go's two tables, as the row lays them.
  TEXTS: no byte stands in a valid text that the program calls a stray one but byte 0; whether a text may be.
  THE PROGRAM's Runes: a text's runes, where it may be and the offset is one of its.
-/
import Derived.Test.YtilkogohiealhaaDoorRows
import Derived.Test.YtilkogohiealhaaDoorShelf
import Derived.Test.YtilkogohiealhaaDoorPA2
import Derived.Lib.LaidU8T
import Derived.PinnedBridge
import Derived.Test.YtilkogohiealhaaDoorPB1
set_option linter.unusedVariables false
namespace Go.Proofs.YtilkogohiealhaaDoor
open Go Go.RowKit Go.Shelf Go.Lib

theorem u8extra : U8Extra Tryd.prog Tryd.lays196_ren := ⟨by kernel_rfl, by kernel_rfl, by kernel_rfl, by kernel_rfl, by kernel_rfl, by kernel_rfl, by kernel_rfl⟩
/-- Go's two tables. -/
def Tabs (w : World) : Prop := Lib.Utf8Tabs (Tryd.lays196_ren.g 3) (Tryd.lays196_ren.g 4) w
theorem tabs_of {W : World} (h : laidMetH Tryd.prog [("unicode/utf8.acceptRanges", Rows.laid_unicode_utf8_acceptRanges), ("unicode/utf8.first", Rows.laid_unicode_utf8_first)] W) : Tabs W := by
  have h' : laidMet Tryd.prog [("unicode/utf8.acceptRanges", Rows.laid_unicode_utf8_acceptRanges), ("unicode/utf8.first", Rows.laid_unicode_utf8_first)] W := h
  refine utf8Tabs_of_readsT (U8Types.of196 Tryd.lays196) u8extra ?_ ?_
  · have := laidMet.reads h' (n := "unicode/utf8.first") (d := Rows.laid_unicode_utf8_first) (by simp)
    rw [show Rows.laid_unicode_utf8_first = firstData from Pinned.utf8First_eq] at this
    exact this
  · have := laidMet.reads h' (n := "unicode/utf8.acceptRanges") (d := Rows.laid_unicode_utf8_acceptRanges) (by simp)
    rw [show Rows.laid_unicode_utf8_acceptRanges = acceptData by kernel_rfl] at this
    exact this
theorem Tabs.kept {S : Nat → Prop} {w w' : World} (h : Tabs w) (hk : Kept S w w') (h0 : ¬ S 0) (h1 : ¬ S 1) : Tabs w' := by
  have c0 : w.cell? ⟨0, 0, none⟩ = some (.int .u8 (Lib.firstT 0)) := h.1 0 (by omega)
  have c1 : w.cell? ⟨1, 0, none⟩ = some (.int .u8 (Lib.accLo 0)) := (h.2 0 (by omega)).1
  have b0 := hk.block 0 (World.block_lt_of_cell? w _ c0) h0
  have b1 := hk.block 1 (World.block_lt_of_cell? w _ c1) h1
  exact ⟨fun c hc => (World.cell?_of_block (w := w) b0).trans (h.1 c hc), fun i hi => ⟨(World.cell?_of_block (w := w) b1).trans (h.2 i hi).1, (World.cell?_of_block (w := w) b1).trans (h.2 i hi).2⟩⟩
theorem valid_any (s : ByteArray) (w : World) (hs : s.size ≤ 9223372036854775807) (hT : Tabs w) :
    Calls Tryd.prog 15 #[.string s] w fun e w' => e = .returned (.bool (Lib.validD s.data.toList)) ∧ Kept (fun _ => False) w w' :=
  (Any.utf8_ValidString Tryd.lays196 s w hs hT).mono fun _ _ ⟨he, hb⟩ => ⟨he, Kept.of_below hb⟩
end Go.Proofs.YtilkogohiealhaaDoor
namespace Go.Proofs.YtilkogohiealhaaDoor
open Go Go.RowKit

/-- A byte that no text has. -/
def strayB (b : UInt8) : Bool := decide (b.toNat = 0 ∨ b.toNat = 192 ∨ b.toNat = 193 ∨ 245 ≤ b.toNat)
theorem stray_and (b : UInt8) : (strayB b = true ∧ (kn b.toNat = 5 ∨ kn b.toNat = 6)) ∨ (strayB b = false ∧ (kn b.toNat = 0 ∨ kn b.toNat = 1 ∨ kn b.toNat = 2 ∨ kn b.toNat = 10)) := by
  have := UInt8.toNat_lt b
  unfold strayB kn
  by_cases h : b.toNat = 0 ∨ b.toNat = 192 ∨ b.toNat = 193 ∨ 245 ≤ b.toNat
  · refine .inl ⟨by simpa using h, ?_⟩
    (repeat' split) <;> omega
  · refine .inr ⟨by simpa using h, ?_⟩
    (repeat' split) <;> omega
theorem byte_at (s : ByteArray) (k : Nat) (h : k < s.size) : s.data.toList[k]? = some (s[k]'h) := by
  show s.data.toList[k]? = some (s.data[k]'h)
  rw [Array.getElem?_toList]
  exact Array.getElem?_eq_getElem h
theorem stray_any (s : ByteArray) (w : World) (hs : s.size ≤ 4000) :
    Calls Tryd.prog 47 #[.string s] w fun e w' => e = .returned (.bool (s.data.toList.any strayB)) ∧ w' = w := by
  obtain ⟨V, hV⟩ : ∃ V, s.data.toList.any strayB = V := ⟨_, rfl⟩
  rw [hV]
  have HV := Lib.hid hV
  clear hV
  go_enter Tryd.func47, Tryd.ntmps47
  go_wp2
  go_loop [6] (fun v => ∃ k : Nat, k ≤ s.size ∧ v = .int .i64 k ∧ (s.data.toList.take k).any strayB = false) (fun v => s.size - (intOf v).toNat)
  case atStart => exact ⟨0, Nat.zero_le _, rfl, rfl⟩
  case round =>
    obtain ⟨k, hk, rfl, hall⟩ := hrel
    have HA := Lib.hid hall
    clear hall
    by_cases hlt : k < s.size
    · obtain ⟨b, hb⟩ : ∃ b, s[k]'hlt = b := ⟨_, rfl⟩
      have hlist : Hid (s.data.toList[k]? = some b) := by
        rw [← hb]
        exact byte_at s k hlt
      have hr := UInt8.toNat_lt b
      have cK := kind_any b.toNat ⟨by omega, by omega⟩ w
      have x0 : bits BinOp.and IntKind.u8 0 4 = 0 := by decide
      have x1 : bits BinOp.and IntKind.u8 1 4 = 0 := by decide
      have x2 : bits BinOp.and IntKind.u8 2 4 = 0 := by decide
      have x3 : bits BinOp.and IntKind.u8 10 4 = 0 := by decide
      have x4 : bits BinOp.and IntKind.u8 6 4 = 4 := by decide
      have x5 : bits BinOp.and IntKind.u8 5 4 = 4 := by decide
      rcases stray_and b with ⟨h1, h2⟩ | ⟨h1, h2⟩
      · have hV : Hid (V = true) := by
          show _ = _
          rw [← HV.out]
          exact List.any_eq_true.2 ⟨b, List.mem_of_getElem? hlist.out, h1⟩
        clear h1
        rcases h2 with h2 | h2
        all_goals
          rw [h2] at cK
          clear h2
          go_wp2_with (go_at_call 55; refine cK.mono ?_; rintro e w' ⟨rfl, rfl⟩)
          go_ret
          rw [hV.out]
          exact ⟨rfl, rfl⟩
      · have H1 := Lib.hid h1
        clear h1
        rcases h2 with h2 | h2 | h2 | h2
        all_goals
          rw [h2] at cK
          clear h2
          go_wp2_with (go_at_call 55; refine cK.mono ?_; rintro e w' ⟨rfl, rfl⟩)
          go_round
          case rel =>
            refine ⟨k + 1, by omega, by go_num, ?_⟩
            rw [List.take_add_one, hlist.out, List.any_append, HA.out]
            simpa using H1.out
          case measure => simp [intOf]; omega
    · obtain rfl : k = s.size := by omega
      have hsz := Lib.size_eq s
      have hfin : Hid (V = false) := by
        show _ = _
        rw [← HV.out]
        have h := HA.out
        rwa [List.take_of_length_le (by omega)] at h
      clear hsz
      go_wp2
      go_ret
      rw [hfin.out]
      exact ⟨rfl, rfl⟩
theorem stray_valid {s : ByteArray} (h : Lib.validD s.data.toList = true) : s.data.toList.any strayB = !(s.data.toList.all fun b => b != 0) := by
  have hp := valid_plain h
  generalize s.data.toList = l at hp ⊢
  clear h
  induction l with
  | nil => rfl
  | cons b l ih =>
    have hb := hp b (by simp)
    have : strayB b = !(b != 0) := by
      unfold strayB
      by_cases h0 : b = 0
      · subst h0; rfl
      · have : b.toNat ≠ 0 := fun e => h0 (UInt8.toNat_inj.1 (by simpa using e))
        have e1 : (b != 0) = true := by simpa using h0
        rw [e1]
        simp
        omega
    rw [List.any_cons, List.all_cons, ih (fun c hc => hp c (by simp [hc])), this]
    cases (b != 0) <;> cases (l.all fun b => b != 0) <;> rfl
/-- Check: 0 where it may be a text, 1 where not. -/
theorem check_any (s : ByteArray) (w : World) (hs : s.size ≤ 140737488351232) (hT : Tabs w) :
    Calls Tryd.prog 35 #[.string s] w fun e w' => e = .returned (.int .i64 (if mayB s then 0 else 1)) ∧ Kept (fun _ => False) w w' := by
  by_cases h1 : s.size ≤ 4000
  · have cV := valid_any s w (by omega) hT
    have HT := Lib.hid hT
    clear hT
    have b1 : decide (4000 < s.size) = false := by simp; omega
    have b2 : decide (4000 < (s.size : Int)) = false := by simp; omega
    cases hv : Lib.validD s.data.toList
    · have hm : mayB s = false := by unfold mayB; rw [hv]; simp
      rw [hm]
      rw [hv] at cV
      clear hv hm
      go_enter Tryd.func35, Tryd.ntmps35
      go_wp2_with (go_at_call 15; refine cV.mono ?_; rintro e w1 ⟨rfl, hk1⟩)
      go_ret
      exact ⟨rfl, hk1⟩
    · have hm : mayB s = !(s.data.toList.any strayB) := by
        rw [stray_valid hv]
        unfold mayB
        rw [hv]
        simp [h1]
      rw [hm]
      rw [hv] at cV
      clear hm hv
      have cS := fun w1 => stray_any s w1 h1
      generalize s.data.toList.any strayB = V at cS ⊢
      go_enter Tryd.func35, Tryd.ntmps35
      go_wp2_with (go_at_call 15; refine cV.mono ?_; rintro e w1 ⟨rfl, hk1⟩)
      refine (cS w1).mono ?_
      rintro e w2 ⟨rfl, rfl⟩
      cases V
      · go_wp2
        go_ret
        exact ⟨rfl, hk1⟩
      · go_wp2
        go_ret
        exact ⟨rfl, hk1⟩
  · have b1 : decide (4000 < s.size) = true := by simp; omega
    have b2 : decide (4000 < (s.size : Int)) = true := by simp; omega
    have hm : mayB s = false := by unfold mayB; simp [h1]
    rw [hm]
    clear hm hT
    go_enter Tryd.func35, Tryd.ntmps35
    go_wp2
    go_ret
    exact ⟨rfl, Kept.refl _ _⟩
/-- May of the reference. -/
theorem rmay_any (s : ByteArray) (w : World) (hs : s.size ≤ 140737488351232) (hT : Tabs w) :
    Calls Tryd.prog 5 #[.string s] w fun e w' => e = .returned (.bool (mayB s)) ∧ Kept (fun _ => False) w w' := by
  by_cases h1 : s.size ≤ 4000
  · have cV := valid_any s w (by omega) hT
    have HT := Lib.hid hT
    clear hT
    have b1 : decide (4000 < s.size) = false := by simp; omega
    have b2 : decide (4000 < (s.size : Int)) = false := by simp; omega
    cases hv : Lib.validD s.data.toList
    · have hm : mayB s = false := by unfold mayB; rw [hv]; simp
      rw [hm]
      rw [hv] at cV
      clear hv hm
      go_enter Tryd.func5, Tryd.ntmps5
      go_wp2_with (go_at_call 15; refine cV.mono ?_; rintro e w1 ⟨rfl, hk1⟩)
      go_ret
      exact ⟨rfl, hk1⟩
    · have hm : mayB s = s.data.toList.all fun b => b != 0 := by
        unfold mayB
        rw [hv]
        simp [h1]
      obtain ⟨V, hV⟩ : ∃ V, mayB s = V := ⟨_, rfl⟩
      rw [hV]
      rw [hV] at hm
      have HM := Lib.hid hm
      rw [hv] at cV
      clear hm hv hV
      go_enter Tryd.func5, Tryd.ntmps5
      go_wp2_with (go_at_call 15; refine cV.mono ?_; rintro e w1 ⟨rfl, hk1⟩)
      have HK := Lib.hid hk1
      clear hk1
      go_loop [3] (fun v => ∃ k : Nat, k ≤ s.size ∧ v = .int .i64 k ∧ (s.data.toList.take k).all (fun b => b != 0) = true) (fun v => s.size - (intOf v).toNat)
      case atStart => exact ⟨0, Nat.zero_le _, rfl, rfl⟩
      case round =>
        obtain ⟨k, hk, rfl, hall⟩ := hrel
        have HA := Lib.hid hall
        clear hall
        by_cases hlt : k < s.size
        · obtain ⟨b, hb⟩ : ∃ b, s[k]'hlt = b := ⟨_, rfl⟩
          have hlist : Hid (s.data.toList[k]? = some b) := by
            rw [← hb]
            exact byte_at s k hlt
          by_cases h0 : b = 0
          · have b3 : ((b.toNat : Int) == 0) = true := by rw [h0]; rfl
            have hV : Hid (V = false) := by
              show _ = _
              rw [HM.out, List.all_eq_false]
              exact ⟨b, List.mem_of_getElem? hlist.out, by rw [h0]; decide⟩
            clear h0
            go_wp2
            go_ret
            rw [hV.out]
            exact ⟨rfl, HK.out⟩
          · have b3 : ((b.toNat : Int) == 0) = false := by
              rw [beq_eq_false_iff_ne]
              intro h
              exact h0 (UInt8.toNat_inj.1 (by simp; omega))
            have H0 : Hid ((b != 0) = true) := by show _ = _; simpa using h0
            clear h0
            go_wp2
            go_round
            case rel =>
              refine ⟨k + 1, by omega, by go_num, ?_⟩
              rw [List.take_add_one, hlist.out, List.all_append, HA.out]
              simpa using H0.out
            case measure => simp [intOf]; omega
        · obtain rfl : k = s.size := by omega
          have hsz := Lib.size_eq s
          have hfin : Hid (V = true) := by
            show _ = _
            have h := HA.out
            rw [HM.out]
            rwa [List.take_of_length_le (by omega)] at h
          clear hsz
          go_wp2
          go_ret
          rw [hfin.out]
          exact ⟨rfl, HK.out⟩
  · have b1 : decide (4000 < s.size) = true := by simp; omega
    have b2 : decide (4000 < (s.size : Int)) = true := by simp; omega
    have hm : mayB s = false := by unfold mayB; simp [h1]
    rw [hm]
    clear hm hT
    go_enter Tryd.func5, Tryd.ntmps5
    go_wp2
    go_ret
    exact ⟨rfl, Kept.refl _ _⟩
end Go.Proofs.YtilkogohiealhaaDoor
namespace Go.Proofs.YtilkogohiealhaaDoor
open Go Go.RowKit

set_option maxRecDepth 100000 in
theorem runes_yes (s : ByteArray) (k : Nat) (w : World) (hT : Tabs w) (hm : mayB s = true) (hk : k ≤ (rs s).length) :
    Calls Tryd.prog 22 #[.string s, .int .i64 k] w fun e w' => Kept (fun _ => False) w w' ∧ ∃ b cap, e = .returned (.tuple #[.slice (some ⟨b, 0, none⟩) (rs s).length cap, .bool true]) ∧ w.heap.size ≤ b ∧ Rn w' (some ⟨b, 0, none⟩) (rs s).length (rs s) := by
  have hsz := mayB_size hm
  have cC := check_any s w (by omega) hT
  rw [hm] at cC
  have hl := rs_len s
  have cV := fun w1 => conv_rs s w1 (by omega)
  generalize rs s = t at *
  clear hT hm
  go_enter Tryd.func22, Tryd.ntmps22
  go_wp2_with (go_at_call 35; refine cC.mono ?_; rintro e w1 ⟨rfl, hk1⟩; obtain ⟨cap, w2, hcap, hcv, hk2, hlt, hR⟩ := cV w1; have HK1 := Lib.hid hk1; have HK2 := Lib.hid hk2; have HR := Lib.hid hR; clear cC cV hk1 hk2 hR)
  have hgs : w.heap.size ≤ w1.heap.size := HK1.out.size
  generalize w1.heap.size = g at *
  exact bodyPost_ret (v := .tuple #[.slice (some ⟨g, 0, none⟩) t.length cap, .bool true]) (by simp [results, Tryd.results22, go_sem]) rfl ⟨HK1.out.trans HK2.out, g, cap, rfl, hgs, HR.out⟩
set_option maxRecDepth 100000 in
theorem runes_no (s : ByteArray) (k : Int) (w : World) (hs : s.size ≤ 140737488351232) (hT : Tabs w) (hno : ¬ (mayB s = true ∧ 0 ≤ k ∧ k ≤ (rs s).length)) :
    Calls Tryd.prog 22 #[.string s, .int .i64 k] w fun e w' => Kept (fun _ => False) w w' ∧ e = .returned (.tuple #[.slice none 0 0, .bool false]) := by
  have cC := check_any s w (by omega) hT
  cases hm : mayB s with
  | false =>
    rw [hm] at cC
    clear hT hm hno
    go_enter Tryd.func22, Tryd.ntmps22
    go_wp2_with (go_at_call 35; refine cC.mono ?_; rintro e w1 ⟨rfl, hk1⟩)
    exact bodyPost_ret (v := .tuple #[.slice none 0 0, .bool false]) (by simp [results, Tryd.results22, go_sem]) rfl ⟨hk1, rfl⟩
  | true =>
    rw [hm] at cC
    have hsz := mayB_size hm
    have hl := rs_len s
    have cV := fun w1 => conv_rs s w1 (by omega)
    have hkk : k < 0 ∨ ((rs s).length : Int) < k := by
      by_cases h1 : 0 ≤ k
      · right
        by_cases h2 : k ≤ (rs s).length
        · exact absurd ⟨hm, h1, h2⟩ hno
        · omega
      · left; omega
    generalize rs s = t at *
    clear hT hm hno
    rcases hkk with h1 | h1
    · have b1 : decide (k < 0) = true := by simp; omega
      go_enter Tryd.func22, Tryd.ntmps22
      go_wp2_with (go_at_call 35; refine cC.mono ?_; rintro e w1 ⟨rfl, hk1⟩; obtain ⟨cap, w2, hcap, hcv, hk2, hlt, hR⟩ := cV w1; have HK1 := Lib.hid hk1; have HK2 := Lib.hid hk2; clear cC cV hk1 hk2 hR)
      exact bodyPost_ret (v := .tuple #[.slice none 0 0, .bool false]) (by simp [results, Tryd.results22, go_sem]) rfl ⟨HK1.out.trans HK2.out, rfl⟩
    · have b1 : decide (k < 0) = false := by simp; omega
      have b2 : decide ((t.length : Int) < k) = true := by simp; omega
      go_enter Tryd.func22, Tryd.ntmps22
      go_wp2_with (go_at_call 35; refine cC.mono ?_; rintro e w1 ⟨rfl, hk1⟩; obtain ⟨cap, w2, hcap, hcv, hk2, hlt, hR⟩ := cV w1; have HK1 := Lib.hid hk1; have HK2 := Lib.hid hk2; clear cC cV hk1 hk2 hR)
      exact bodyPost_ret (v := .tuple #[.slice none 0 0, .bool false]) (by simp [results, Tryd.results22, go_sem]) rfl ⟨HK1.out.trans HK2.out, rfl⟩
end Go.Proofs.YtilkogohiealhaaDoor
