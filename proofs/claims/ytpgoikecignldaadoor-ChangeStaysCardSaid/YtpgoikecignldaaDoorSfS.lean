/-
  ROWS SHIFTED: the library's Split and Join at this translation; the program's unblanked.
-/
import Derived.Test.YtpgoikecignldaaDoorSfP
import Derived.Test.YtpgoikecignldaaDoorShelf2
import Derived.Test.YtpgoikecignldaaDoorSp2
import Derived.Shelf.Strings.Split
import Derived.Shelf.Strings.OnBuilder
import Derived.Shelf.Vars
set_option linter.unusedVariables false
namespace Go.Proofs.YtpgoikecignldaaDoor
open Go Go.RowKit

theorem extraB : Builder.Extra Tryd.prog Tryd.lays156_ren where
  sizeBuilder := by kernel_rfl
  liesBuilder := by kernel_rfl
  t5 := by kernel_rfl
  a5 := Tryd.isAgg5
  z5 := Tryd.sizeOf5
  v5 := Tryd.zeroValue5
  infoByte := by kernel_rfl
  cellsByte := by kernel_rfl
  sizeByte := by kernel_rfl
  neB5 := by decide
/-- The library's own variable holds some number. -/
def Mx (w : World) : Prop := ∃ m, w.cell? ⟨Tryd.lays146_ren.g 1, 0, none⟩ = some (.int .i64 m)
theorem Mx.kept {w w' : World} (h : Mx w) (hk : Kept (fun _ => False) w w') : Mx w' := by
  obtain ⟨m, h⟩ := h
  exact ⟨m, cell_kept hk h id⟩
theorem mx_of {W : World} (h : W.ShapedOpen Tryd.prog) : Mx W :=
  cell_of_shapedOpen_int (zero := #[.int .i64 0]) (t := 3) h (of_decide_eq_true (by kernel_rfl)) (by kernel_rfl) rfl (by kernel_rfl) (by kernel_rfl) Tryd.underlying3
theorem split_any (u : List Int) (w : World) (hv : Vld u) (hl : u.length ≤ 100000) (hM : Mx w) :
    Calls Tryd.prog 36 #[.string (runesBytes u), .string ⟨#[10]⟩] w fun e w' => e = .returned (.slice (some ⟨w.heap.size, 0, none⟩) (rowsOf u).length (rowsOf u).length) ∧ w' = w.alloc (.cells (((rowsOf u).map runesBytes).map Value.string).toArray 9) := by
  obtain ⟨m, hm⟩ := hM
  have hs : (runesBytes u).size ≤ 400000 := by
    rw [txt_size]
    have : ∀ l : List Int, (Utf.bytes l).length ≤ 4 * l.length := fun l => by
      induction l with
      | nil => exact Nat.le_refl _
      | cons c l ih => show (Utf.enc c ++ Utf.bytes l).length ≤ _; have := (Utf.enc_length c).2; rw [List.length_append, List.length_cons]; omega
    have := this u
    omega
  have := Any.strings_Split Tryd.lays146 (by kernel_rfl) (runesBytes u) nlB m w (by omega) hm (by decide)
  rw [← split_len hv, split_rows hv] at this
  exact this
theorem join_any' (bk c : Nat) (rs : List (List Int)) (w : World) (hcells : ∀ (j : Nat) x, (rs.map runesBytes)[j]? = some x → w.cell? ⟨bk, j, none⟩ = some (.string x)) (hbk : bk < w.heap.size) (hN : rs.length ≤ 100000) (hcap : rs.length ≤ c) (hlen : (joinR rs).length ≤ 1000000) :
    Calls Tryd.prog 38 #[.slice (some ⟨bk, 0, none⟩) rs.length c, .string ⟨#[10]⟩] w fun e w' => e = .returned (.string (runesBytes (joinR rs))) ∧ Kept (fun _ => False) w w' := by
  have hj := join_rows rs
  have hb : (Lib.join ((rs.map runesBytes).map (·.data.toList)) nlB.data.toList).length ≤ 140737488355328 := by
    have h1 := congrArg ByteArray.size hj
    have h2 : (runesBytes (joinR rs)).size ≤ 4 * (joinR rs).length := by
      rw [txt_size]
      have : ∀ l : List Int, (Utf.bytes l).length ≤ 4 * l.length := fun l => by
        induction l with
        | nil => exact Nat.le_refl _
        | cons c l ih => show (Utf.enc c ++ Utf.bytes l).length ≤ _; have := (Utf.enc_length c).2; rw [List.length_append, List.length_cons]; omega
      exact this _
    have h3 : (⟨(Lib.join ((rs.map runesBytes).map (·.data.toList)) nlB.data.toList).toArray⟩ : ByteArray).size = (Lib.join ((rs.map runesBytes).map (·.data.toList)) nlB.data.toList).length := by simp [ByteArray.size]
    omega
  have := Any.strings_Join Tryd.lays156 extraB bk 0 c (rs.map runesBytes) nlB w (fun j x h => by rw [Nat.zero_add]; exact hcells j x h) hbk (by rw [List.length_map]; omega) (by rw [List.length_map]; exact hcap) hb
  rw [hj, List.length_map] at this
  exact this.mono fun e w' ⟨he, hk⟩ => ⟨he, Kept.of_below hk⟩

theorem txt_cons (c : Int) (l : List Int) : (runesBytes (c :: l)).data.toList = Utf.enc c ++ Utf.bytes l := txt_list _
theorem enc_small {c : Int} (h : 0 ≤ c ∧ c < 128) : Utf.enc c = [UInt8.ofNat c.toNat] := by
  obtain ⟨n, rfl⟩ := Int.eq_ofNat_of_zero_le h.1
  rw [Utf.enc_of (Utf.valid_nat (by omega)), if_pos (by omega)]
  rfl
theorem enc_first {c : Int} (hv : Utf8.valid c = true) : ∃ b r, Utf.enc c = b :: r ∧ ((0 ≤ c ∧ c < 128 ∧ (b.toNat : Int) = c ∧ r = []) ∨ (128 ≤ c ∧ 128 ≤ b.toNat)) := by
  have hn := Utf.int_valid hv
  by_cases h : c < 128
  · have h0 : 0 ≤ c := by omega
    refine ⟨_, _, enc_small ⟨h0, h⟩, .inl ⟨h0, h, ?_, rfl⟩⟩
    obtain ⟨n, rfl⟩ := Int.eq_ofNat_of_zero_le h0
    rw [Int.toNat_natCast, Utf.toNat_ofNat (by omega)]
  · obtain ⟨n, rfl⟩ := Int.eq_ofNat_of_zero_le (show 0 ≤ c by omega)
    rw [Utf.enc_of hv, if_neg (by omega)]
    split
    · exact ⟨_, _, rfl, .inr ⟨by omega, by rw [Utf.toNat_ofNat (by omega)]; omega⟩⟩
    · split
      · exact ⟨_, _, rfl, .inr ⟨by omega, by rw [Utf.toNat_ofNat (by omega)]; omega⟩⟩
      · exact ⟨_, _, rfl, .inr ⟨by omega, by rw [Utf.toNat_ofNat (by omega)]; omega⟩⟩
theorem row_first {c : Int} {l : List Int} (hv : Utf8.valid c = true) : ∃ (h : 0 < (runesBytes (c :: l)).size) (b : UInt8), (runesBytes (c :: l))[0]'h = b ∧ Rw.cls (b.toNat : Int) = Rw.cls c ∧ (0 ≤ (b.toNat : Int) ∧ (b.toNat : Int) ≤ 1114111) ∧ (Rw.cls c = 0 → (runesBytes (c :: l)).extract 1 (runesBytes (c :: l)).size = runesBytes l) := by
  obtain ⟨b, r, he, hb⟩ := enc_first hv
  have ht := txt_cons c l
  rw [he] at ht
  have hsz : (runesBytes (c :: l)).size = (b :: r ++ Utf.bytes l).length := by rw [Lib.size_eq, ht]
  have hpos : 0 < (runesBytes (c :: l)).size := by rw [hsz]; simp
  have hlt := UInt8.toNat_lt b
  refine ⟨hpos, b, ?_, ?_, ⟨by omega, by omega⟩, ?_⟩
  · have h1 : (runesBytes (c :: l)).data.toList[0]? = some b := by rw [ht]; rfl
    have h2 : (runesBytes (c :: l)).data.toList[0]? = some ((runesBytes (c :: l))[0]'hpos) := by
      rw [List.getElem?_eq_getElem (by rw [ht]; simp)]
      rfl
    rw [h1] at h2
    injection h2 with h2
    exact h2.symm
  · rcases hb with ⟨_, _, h, _⟩ | ⟨h1, h2⟩
    · rw [h]
    · unfold Rw.cls
      rw [if_neg (by omega), if_pos (by omega), if_neg (by omega), if_pos (by omega)]
  · intro hc
    rcases hb with ⟨_, _, h, hr⟩ | ⟨h1, h2⟩
    · apply ba_ext
      subst hr
      rw [txt_list]
      have : ((runesBytes (c :: l)).extract 1 (runesBytes (c :: l)).size).data.toList = (runesBytes (c :: l)).data.toList.drop 1 := Lib.extract_to_end _ _
      rw [this, ht]
      rfl
    · exfalso
      unfold Rw.cls at hc
      rw [if_neg (by omega), if_pos (by omega)] at hc
      cases hc
theorem row_some {c : Int} {l : List Int} (hv : Utf8.valid c = true) : (runesBytes (c :: l)).toList.isEmpty = false := by
  obtain ⟨b, r, he, _⟩ := enc_first hv
  rw [ByteArray.toList_eq, txt_cons, he]
  rfl
theorem stN_vld {n : Nat} {l : List Int} (h : Vld l) : Vld (stN n l) := fun x hx => h x ((stN_sub n l).subset hx)
set_option maxRecDepth 100000 in
set_option maxHeartbeats 1000000 in
theorem unblanked_any (r : List Int) (w : World) (hv : Vld r) (hl : r.length ≤ 100000) :
    Calls Tryd.prog 37 #[.string (runesBytes r)] w fun e w' => e = .returned (.string (runesBytes (stN 2 r))) ∧ w' = w := by
  obtain ⟨Z, hZ⟩ : ∃ Z, stN 2 r = Z := ⟨_, rfl⟩
  rw [hZ]
  have HZ := Lib.hid hZ
  have HV := Lib.hid hv
  clear hZ hv
  go_enter Tryd.func37, Tryd.ntmps37
  go_wp2
  go_loop [0, 3] (fun rv v => ∃ (i : Nat) (u : List Int), i ≤ 2 ∧ v = .int .i64 i ∧ rv = .string (runesBytes u) ∧ stN (2 - i) u = Z ∧ Vld u ∧ u.length ≤ 100000) (fun _ v => 2 - (intOf v).toNat)
  case atStart => exact ⟨0, r, by omega, rfl, rfl, HZ.out, HV.out, hl⟩
  case round =>
    obtain ⟨i, u, hi, rfl, rfl, hs, hv, hul⟩ := hrel
    have HS := Lib.hid hs
    have HVU := Lib.hid hv
    clear hs hv
    by_cases hlt : i < 2
    · have b1 : decide ((i : Int) < 2) = true := by simp; omega
      have b2 : decide (i < 2) = true := by simp; omega
      have HST : Hid (stN (2 - (i + 1)) (str1 u) = Z) := by
        show _ = _
        rw [← HS.out, show 2 - i = (2 - (i + 1)) + 1 by omega]
        rfl
      cases u with
      | nil =>
        have hnil : runesBytes [] = (⟨#[]⟩ : ByteArray) := by decide
        rw [hnil]
        go_wp2
        go_round
        case rel => exact ⟨i + 1, [], by omega, by go_num, by rw [hnil], HST.out, HVU.out, by simp⟩
        case measure => simp [intOf]; omega
      | cons c l =>
        have hvc := HVU.out c (by simp)
        have hne := row_some (l := l) hvc
        obtain ⟨hpos, b, hb, hcl, ⟨hb1, hb2⟩, hex⟩ := row_first (l := l) hvc
        have cB := fun w => blank_any (b.toNat : Int) ⟨hb1, hb2⟩ w
        rw [hcl] at cB
        have HVC : Hid (Vld (c :: l)) := HVU.out
        by_cases hz : Rw.cls c = 0
        · have hx := hex hz
          have h1l : stN (2 - (i + 1)) l = Z := by
            have := HST.out
            simp only [str1] at this
            rw [if_pos hz] at this
            exact this
          have HL := Lib.hid h1l
          have d1 : (Rw.cls c == 0) = true := by rw [hz]; rfl
          simp only [d1] at cB
          have hsl : ∀ u, (Instr.slice 9 (.string (runesBytes (c :: l))) (some (.int .i64 1)) none none).run Tryd.prog u = .ok (.string (runesBytes l)) u := fun u => by
            rw [run_slice_string_l (P := Tryd.prog) u 9 (runesBytes (c :: l)) Tryd.underlying9 .i64 1 (by omega) (by omega)]
            rw [← hx]
            rfl
          clear hz h1l d1 hcl hex hx HVU
          generalize runesBytes (c :: l) = RW at *
          go_wp2_with (go_at_call 46; refine (cB _).mono ?_; rintro e w2 ⟨rfl, hw⟩; have hw3 := hw.symm; subst hw3)
          go_round
          case rel => exact ⟨i + 1, l, by omega, by go_num, rfl, HL.out, fun x hx => HVC.out x (by simp [hx]), by simp at hul; omega⟩
          case measure => simp [intOf]; omega
        · have h1l : stN (2 - (i + 1)) (c :: l) = Z := by
            have := HST.out
            simp only [str1] at this
            rw [if_neg hz] at this
            exact this
          have HL := Lib.hid h1l
          have d1 : (Rw.cls c == 0) = false := by rw [beq_eq_false_iff_ne]; exact hz
          simp only [d1] at cB
          clear hz h1l d1 hcl hex HVU
          generalize hRW : runesBytes (c :: l) = RW at *
          have HRW := Lib.hid hRW
          clear hRW
          go_wp2_with (go_at_call 46; refine (cB _).mono ?_; rintro e w2 ⟨rfl, hw⟩; have hw3 := hw.symm; subst hw3)
          go_round
          case rel => exact ⟨i + 1, c :: l, by omega, by go_num, by rw [HRW.out], HL.out, HVC.out, hul⟩
          case measure => simp [intOf]; omega
    · obtain rfl : i = 2 := by omega
      have b1 : decide ((2 : Int) < 2) = false := by decide
      have hz : u = Z := HS.out
      subst hz
      go_wp2
      go_ret
      exact ⟨rfl, rfl⟩
end Go.Proofs.YtpgoikecignldaaDoor
