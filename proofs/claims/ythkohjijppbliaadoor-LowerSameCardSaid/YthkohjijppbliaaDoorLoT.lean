/-
  ELEMENTS: their text; how many stand ahead of one.
-/
import Derived.Test.YthkohjijppbliaaDoorLoF
import Derived.Test.YthkohjijppbliaaDoorLoS
import Derived.Test.YthkohjijppbliaaDoorOdD
import Derived.Lib.RuneBytes
set_option linter.unusedVariables false
namespace Go.Proofs.YthkohjijppbliaaDoor
open Go Go.RowKit

theorem enc_rune {r : Int} (hv : Utf8.valid r = true) : Lib.encodeRune r = Utf.enc r := by
  have hn := Utf.int_valid hv
  obtain ⟨c, rfl⟩ := Int.eq_ofNat_of_zero_le (show 0 ≤ r by omega)
  rw [Utf.enc_of hv]
  unfold Lib.encodeRune
  have e8 : ∀ (x : Int) (m : Nat), x = (m : Int) → x.toNat.toUInt8 = UInt8.ofNat m := fun x m h => by subst h; rfl
  by_cases h1 : c < 128
  · rw [if_pos h1, Lib.encodeRuneZ_one (by omega) (by omega)]
    simp
  rw [if_neg h1]
  by_cases h2 : c < 2048
  · rw [if_pos h2, Lib.encodeRuneZ_two (by omega) (by omega)]
    simp only [List.map_cons, List.map_nil]
    rw [e8 _ (192 + c / 64) (by omega), e8 _ (128 + c % 64) (by omega)]
  rw [if_neg h2]
  by_cases h3 : c < 65536
  · rw [if_pos h3, Lib.encodeRuneZ_three (by omega)]
    simp only [List.map_cons, List.map_nil]
    rw [e8 _ (224 + c / 4096) (by omega), e8 _ (128 + c / 64 % 64) (by omega), e8 _ (128 + c % 64) (by omega)]
  rw [if_neg h3, Lib.encodeRuneZ_four (by omega) (by omega)]
  simp only [List.map_cons, List.map_nil]
  rw [e8 _ (240 + c / 262144) (by omega), e8 _ (128 + c / 4096 % 64) (by omega), e8 _ (128 + c / 64 % 64) (by omega), e8 _ (128 + c % 64) (by omega)]
theorem ru_valid {r : Int} (h : Cd.ruOk r) : Utf8.valid r = true := by
  unfold Cd.ruOk at h
  simp [Utf8.valid]
  omega
theorem bytes_le : ∀ t : List Int, (Utf.bytes t).length ≤ 4 * t.length
  | [] => Nat.le_refl _
  | r :: t => by
    have ih := bytes_le t
    have h1 := (Utf.enc_length r).2
    have e : Utf.bytes (r :: t) = Utf.enc r ++ Utf.bytes t := by simp [Utf.bytes]
    rw [e, List.length_append, List.length_cons]
    omega
theorem Kept.blw {w w' w'' : World} {b : Nat} (h : Kept (fun _ => False) w w') (hb : Below b w' w'') (hB : w.heap.size ≤ b) : Kept (fun _ => False) w w'' :=
  ⟨hb.os.trans h.os, hb.tape.trans h.tape, hb.output.trans h.output, Nat.le_trans h.size hb.size, fun k hk hn => (hb.block k (Nat.lt_of_lt_of_le hk hB)).trans (h.block k hk hn)⟩
theorem bld_new (w : World) : Lib.IsBuilderF 116 5 w.heap.size w.heap.size (Lib.byteCells []) (w.alloc (.cells #[.pointer none, .slice none 0 0] 116)) :=
  .inl ⟨Nat.le_refl _, .slice none 0 0, heap_alloc_new w _, World.ownsRowF_of (World.ownsRow_nil _ _ _ _), by simp [Value.ownBlock]⟩
theorem otext_no (L : List ElemS) (v : Value) (w : World) (h : Se w v L) (hln : L.length ≤ 140737488351232) (hno : ¬ elsOk L) (hT : Tabs w) :
    Calls Tryd.prog 37 #[v] w fun e w' => e = .returned (.tuple #[.string ⟨#[]⟩, .int .i64 1]) ∧ Kept (fun _ => False) w w' := by
  have cC := ocheck_any L v w h hln hT
  rw [if_neg hno] at cC
  obtain ⟨A, c, rfl, _⟩ := h.open'
  clear h hno hT
  go_enter Tryd.func37, Tryd.ntmps37
  go_wp2_with (go_at_call 39; refine cC.mono ?_; clear cC; rintro ee w2 ⟨rfl, hk2⟩; have HK2 := Lib.hid hk2; clear hk2)
  go_ret2
  exact ⟨rfl, HK2.out⟩
set_option maxRecDepth 100000 in
set_option maxHeartbeats 16000000 in
theorem otext_any (L : List ElemS) (v : Value) (w : World) (h : Se w v L) (hok : elsOk L) (hT : Tabs w) :
    Calls Tryd.prog 37 #[v] w fun e w' => e = .returned (.tuple #[.string (runesBytes (txL L)), .int .i64 0]) ∧ Kept (fun _ => False) w w' := by
  have cC := ocheck_any L v w h (by have := hok.1; omega) hT
  rw [if_pos hok] at cC
  obtain ⟨A, c, rfl, hA, _, _⟩ := h.open'
  obtain ⟨n, hN⟩ : ∃ n, L.length = n := ⟨_, rfl⟩
  rw [hN] at hA cC ⊢
  have HA := Lib.hid hA
  have HN := Lib.hid hN
  have HRU : Hid (∀ e ∈ L, Cd.ruOk e.r) := fun e he => (hok.2.1 e he).2
  have hn : n ≤ 2000 := by have := hok.1; omega
  clear h hT hA hok hN
  go_enter Tryd.func37, Tryd.ntmps37
  go_upto_region 4 with (go_at_call 39; refine cC.mono ?_; clear cC; rintro ee w2 ⟨rfl, hk2⟩; have HKZ := Lib.hid hk2; clear hk2)
  go_upto_region 5 with fail
  have HB : Hid (w.heap.size ≤ w2.heap.size) := HKZ.out.size
  have HI0 := Lib.hid (bld_new w2)
  have HKA : Hid (Kept (fun _ => False) w (w2.alloc (.cells #[.pointer none, .slice none 0 0] 116))) := HKZ.out.alloc _
  clear HKZ
  generalize w2.alloc (.cells #[.pointer none, .slice none 0 0] 116) = w3 at *
  generalize w2.heap.size = b at *
  go_wp2_with fail
  go_loopw [15] (fun v wr => ∃ k : Nat, k ≤ n ∧ v = .int .i64 k ∧ Lib.IsBuilderF 116 5 b b (Lib.byteCells (Utf.bytes (txL (L.take k)))) wr ∧ Kept (fun _ => False) w wr) (fun v _ => n - (intOf v).toNat)
  case atStart => exact ⟨0, Nat.zero_le _, rfl, HI0.out, HKA.out⟩
  case round =>
    obtain ⟨k, hk, rfl, hid, hkept⟩ := hrel
    have HK := Lib.hid hkept
    have HID := Lib.hid hid
    have HBW : Hid (b ≤ wr.heap.size) := hid.elim (fun x => Nat.le_of_lt x.lt) (fun x => Nat.le_of_lt x.lt)
    clear hkept hid
    by_cases hlt : k < n
    · obtain ⟨ad, e, rfl, he, h4'⟩ := (HA.out.kept HK.out (fun _ _ => id)).at_ hlt
      have c0 := h4'.c0
      have c1 := h4'.c1
      have c2 := h4'.c2
      have c3 := h4'.c3
      have b1 : decide (k < n) = true := decide_eq_true hlt
      have b2 : decide ((k : Int) < (n : Int)) = true := decide_eq_true (by omega)
      have t1 : (0 : Int) ≤ (k : Int) := by omega
      have t2 : (k : Int) < (n : Int) := by omega
      have HST := Lib.hid (txL_take he)
      have hru := HRU.out e (List.mem_of_getElem? he)
      have hlen : (Utf.bytes (txL (L.take k))).length ≤ 8000 := by
        have h1 := bytes_le (txL (L.take k))
        have h2 := txL_len (L.take k)
        rw [List.length_take] at h2
        omega
      have hk5 : Kept (fun _ => False) wr (wr.alloc (elemO e)) := (Kept.refl _ wr).alloc _
      have HE5 : Hid (El4 (wr.alloc (elemO e)) ⟨wr.heap.size, 0, none⟩ e) := el4_new
      have HIA := Lib.hid (HID.out.alloc (elemO e))
      have HKB := Lib.hid (HK.out.trans hk5)
      have HBX : Hid (b ≤ (wr.alloc (elemO e)).heap.size) := by have := hk5.size; have := HBW.out; show _ ≤ _; omega
      clear he h4' hk5
      go_upto_region 8 with fail
      clear c0 c1 c2 c3
      simp only [elemO] at HE5 HIA HKB HBX
      generalize wr.alloc (.cells #[.int .i64 e.t, .int .i64 e.si, .int .i64 e.r, .bool e.d] 71) = w5 at *
      generalize wr.heap.size = q at *
      obtain ⟨x0, x1, x2, x3⟩ := HE5.out.cs
      obtain ⟨et, es, er, ed⟩ := e
      simp only at x0 x1 x2 x3 hru
      cases ed with
      | true =>
        have HNE : Hid (txL (L.take (k + 1)) = txL (L.take k)) := by show _ = _; rw [HST.out]; simp
        clear hru
        go_wp2_with fail
        go_roundw
        case rel => exact ⟨k + 1, by omega, by go_num, by rw [HNE.out]; exact HIA.out, HKB.out⟩
        case measure => simp [intOf] <;> omega
      | false =>
        have hr1 : 1 ≤ er ∧ er ≤ 1114111 := ⟨hru.1, hru.2.1⟩
        have HNE : Hid (Lib.byteCells (Utf.bytes (txL (L.take k))) ++ Lib.runeCells er = Lib.byteCells (Utf.bytes (txL (L.take (k + 1))))) := by
          show _ = _
          rw [HST.out, ← Lib.byteCells_encodeRune, enc_rune (ru_valid hru), if_neg (by simp), Utf.bytes_append]
          simp [Lib.byteCells, Utf.bytes]
        have cW := write_rune b b _ er (by omega) (by omega) w5 HIA.out (by simp [Lib.byteCells]; omega) HBX.out
        have hw32 : IntKind.i32.wrap er = er := i32_rune (by omega)
        clear hru hlen
        go_wp2_with (go_at_call 64; refine cW.mono ?_; clear cW x0 x1 x2 x3; rintro ee w6 ⟨rfl, hi6, hb6, _⟩; have HI6 : Hid (Lib.IsBuilderF 116 5 b b (Lib.byteCells (Utf.bytes (txL (L.take (k + 1))))) w6) := .inr (by rw [← HNE.out]; exact hi6); have HK6 := Lib.hid (HKB.out.blw hb6 HB.out); clear hi6 hb6)
        go_roundw
        case rel => exact ⟨k + 1, by omega, by go_num, HI6.out, HK6.out⟩
        case measure => simp [intOf] <;> omega
    · obtain rfl : k = n := by omega
      have b1 : decide (k < k) = false := decide_eq_false (by omega)
      have b2 : decide ((k : Int) < (k : Int)) = false := decide_eq_false (by omega)
      have HAL : Hid (L.take k = L) := List.take_of_length_le (by rw [HN.out]; exact Nat.le_refl _)
      have hid := HID.out
      rw [HAL.out] at hid
      have cS := build_str b b _ wr hid HBW.out
      have HTX : Hid ((⟨(Utf.bytes (txL L)).toArray⟩ : ByteArray) = runesBytes (txL L)) := by
        show _ = _
        apply Go.Proofs.YthkohjijppbliaaDoor.ba_ext
        rw [txt_list]
      rw [HTX.out] at cS
      clear hid
      go_wp2_with (go_at_call 65; refine cS.mono ?_; clear cS; rintro ee w6 ⟨rfl, _, hb6, _⟩; have HK6 := Lib.hid (HK.out.blw hb6 HB.out); clear hb6)
      go_ret2
      exact ⟨rfl, HK6.out⟩
end Go.Proofs.YthkohjijppbliaaDoor
