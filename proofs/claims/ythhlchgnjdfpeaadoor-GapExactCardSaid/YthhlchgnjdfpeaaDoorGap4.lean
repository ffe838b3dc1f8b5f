/-
  THE GAP BUFFER: its calls, told of its text.
-/
import Derived.Test.YthhlchgnjdfpeaaDoorGap3
import Derived.Test.YthhlchgnjdfpeaaDoorGapL
set_option linter.unusedVariables false
namespace Go.Proofs.YthhlchgnjdfpeaaDoor
open Go Go.RowKit

/-- A gap buffer: its block, its cells, its text. -/
structure GS (w : World) (rb room cb n c low high : Nat) (moves : Int) (zs t : List Int) : Prop where
  r : RB w rb room cb n c low high moves
  b : CB w cb zs
  z : c = zs.length
  lh : low ≤ high
  hn : high ≤ n
  nc : n ≤ c
  nr : n ≤ room
  rr : room ≤ 10000
  m0 : 0 ≤ moves
  t : tx zs n low high = t
section
variable {w : World} {rb room cb n c low high : Nat} {moves : Int} {zs t : List Int}
theorem GS.len (h : GS w rb room cb n c low high moves zs t) : t.length = n - (high - low) := by
  rw [← h.t]
  exact tx_length zs n low high h.lh h.hn (by rw [← h.z]; exact h.nc)
theorem GS.drewN (h : GS w rb room cb n c low high moves zs t) (k : Nat) : GS (w.drewN k) rb room cb n c low high moves zs t :=
  ⟨h.r, h.b, h.z, h.lh, h.hn, h.nc, h.nr, h.rr, h.m0, h.t⟩
theorem GS.kept {S : Nat → Prop} {w' : World} (h : GS w rb room cb n c low high moves zs t) (hk : Kept S w w') (h1 : ¬ S rb) (h2 : ¬ S cb) : GS w' rb room cb n c low high moves zs t :=
  ⟨h.r.kept hk h1, h.b.kept hk h2, h.z, h.lh, h.hn, h.nc, h.nr, h.rr, h.m0, h.t⟩

theorem G_len (h : GS w rb room cb n c low high moves zs t) : Calls Tryd.prog 20 #[.pointer (some ⟨rb, 0, none⟩)] w fun e w' => e = .returned (.int .i64 (t.length : Nat)) ∧ ∃ k, w' = w.drewN k := by
  have hn := h.hn
  have hl := h.lh
  have hr := h.nr
  have hrr := h.rr
  have e : ((n : Int) - ((high : Int) - (low : Int))) = ((t.length : Nat) : Int) := by rw [h.len]; omega
  rw [← e]
  exact len_any rb _ n c low high w h.r.c1 h.r.c2 h.r.c3 hl hn (by omega)
theorem G_piece (h : GS w rb room cb n c low high moves zs t) (i m : Nat) (him : i + m ≤ t.length) :
    Calls Tryd.prog 29 #[.pointer (some ⟨rb, 0, none⟩), .int .i64 i, .int .i64 m] w fun e w' => e = .returned (.string (runesBytes ((t.drop i).take m))) ∧ ∃ k, w' = w.drewN k := by
  have hlen := h.len
  have hn := h.hn
  have hl := h.lh
  have hr := h.nr
  have hrr := h.rr
  have hc := h.nc
  have hz := h.z
  have e : runesBytes ((zs.take (min (i + m) low)).drop (min i low)) ++ runesBytes ((zs.take (max (i + m) low + high - low)).drop (max i low + high - low)) = runesBytes ((t.drop i).take m) := by
    rw [← h.t, ← tx_piece zs n low high i m hl hn (by omega) (by omega)]
    apply ByteArray.ext
    apply Array.toList_inj.1
    simp only [Utf.runesBytes_eq, ByteArray.data_append, Array.toList_append, Utf.bytes_append]
  rw [← e]
  exact piece_any rb cb n c low high i m w zs h.r.c1 h.r.c2 h.r.c3 hl hn (by omega) hc hz h.b (by omega)

theorem G_carry (h : GS w rb room cb n c low high moves zs t) (i : Nat) (hi : i ≤ t.length) (hm : moves ≤ 1000000000000000000) :
    Calls Tryd.prog 28 #[.pointer (some ⟨rb, 0, none⟩), .int .i64 i] w fun e w' => e = .returned (.tuple #[]) ∧ Kept (fun k => k = rb ∨ k = cb) w w' ∧
      ∃ high' zs', high' + low = high + i ∧ GS w' rb room cb n c i high' (moves + (((low : Int) - (i : Int)).natAbs : Nat)) zs' t := by
  have hlen := h.len
  have hn := h.hn
  have hl := h.lh
  have hr := h.nr
  have hrr := h.rr
  have hc := h.nc
  have hz := h.z
  have hm0 := h.m0
  by_cases hlt : i < low
  · refine (carry_down rb cb n c low high i w zs moves room h.r hl hn (by omega) hc hz h.b hlt hm0 hm).mono ?_
    rintro e w' ⟨rfl, hk, h1, h2⟩
    refine ⟨rfl, hk, high - (low - i), _, by omega, ⟨?_, h2, ?_, by omega, by omega, hc, hr, hrr, by omega, ?_⟩⟩
    · unfold RB
      rw [show (((high - (low - i) : Nat)) : Int) = (high : Int) - ((low : Int) - (i : Int)) by omega, show ((((low : Int) - (i : Int)).natAbs : Nat) : Int) = (low : Int) - (i : Int) by omega]
      exact h1
    · rw [length_splice _ _ _ (by simp only [List.length_drop, List.length_take]; omega)]
      exact hz
    · rw [tx_down zs n low high i hl hn (by omega) hlt]
      exact h.t
  · refine (carry_up rb cb n c low high i w zs moves room h.r hl hn (by omega) hc hz h.b (by omega) (by omega) hm0 hm).mono ?_
    rintro e w' ⟨rfl, hk, h1, h2⟩
    refine ⟨rfl, hk, high + (i - low), _, by omega, ⟨?_, h2, ?_, by omega, by omega, hc, hr, hrr, by omega, ?_⟩⟩
    · unfold RB
      rw [show (((high + (i - low) : Nat)) : Int) = (high : Int) - ((low : Int) - (i : Int)) by omega, show ((((low : Int) - (i : Int)).natAbs : Nat) : Int) = -((low : Int) - (i : Int)) by omega]
      exact h1
    · rw [length_splice _ _ _ (by simp only [List.length_drop, List.length_take]; omega)]
      exact hz
    · rw [tx_up zs n low high i hl hn (by omega) (by omega) (by omega)]
      exact h.t

theorem widen_no (h : GS w rb room cb n c low high moves zs t) (k : Nat) (hk : k ≤ high - low) : Calls Tryd.prog 31 #[.pointer (some ⟨rb, 0, none⟩), .int .i64 k] w fun e w' => e = .returned (.tuple #[]) ∧ ∃ q, w' = w.drewN q := by
  have hn := h.hn
  have hl := h.lh
  have hr := h.nr
  have hrr := h.rr
  have c2 := h.r.c2
  have c3 := h.r.c3
  clear h
  have x1 : IntKind.i64.wrap ((high : Int) - (low : Int)) = (high : Int) - (low : Int) := IntWalk.i64_in _ (by omega)
  have hbool : decide ((k : Int) ≤ (high : Int) - (low : Int)) = true := by simp; omega
  go_enter Tryd.func31, Tryd.ntmps31
  go_wp2
  go_quiet (fail)
  go_wp2
  first | go_end0 | refine bodyPost_ret (results_none rfl _ _ _) rfl ?_
  exact ⟨rfl, _, rfl⟩
theorem G_widen (h : GS w rb room cb n c low high moves zs t) (k : Nat) (hk : k + t.length ≤ room) :
    Calls Tryd.prog 31 #[.pointer (some ⟨rb, 0, none⟩), .int .i64 k] w fun e w' => e = .returned (.tuple #[]) ∧ Kept (fun j => j = rb) w w' ∧
      ∃ cb' n' c' high' zs', (cb' = cb ∨ w.heap.size ≤ cb') ∧ k ≤ high' - low ∧ GS w' rb room cb' n' c' low high' moves zs' t := by
  have hlen := h.len
  have hn := h.hn
  have hl := h.lh
  have hr := h.nr
  have hrr := h.rr
  have hc := h.nc
  have hz := h.z
  have hm0 := h.m0
  by_cases hlt : k ≤ high - low
  · refine (widen_no h k hlt).mono ?_
    rintro e w' ⟨rfl, q, rfl⟩
    exact ⟨rfl, (Kept.refl _ _).drewN _, cb, n, c, high, zs, .inl rfl, hlt, h.drewN q⟩
  · obtain ⟨wide, hw⟩ : ∃ wide : Nat, (wide : Int) = max (k : Int) (min (2 * ((n : Int) - ((high : Int) - low))) ((room : Int) - ((n : Int) - ((high : Int) - low)))) := ⟨(max (k : Int) (min (2 * ((n : Int) - ((high : Int) - low))) ((room : Int) - ((n : Int) - ((high : Int) - low))))).toNat, by omega⟩
    refine (widen_yes rb cb n c low high k room moves w zs h.r h.b hl hn (by omega) hc hz (by omega) (by omega) (by omega) wide hw).mono ?_
    rintro e w' ⟨rfl, hkp, cb', hcb, h1, h2⟩
    have e1 : (zs.take low).length = low := by simp only [List.length_take]; omega
    have e2 : ((zs.take n).drop high).length = n - high := by simp only [List.length_take, List.length_drop]; omega
    refine ⟨rfl, hkp, cb', _, _, low + wide, _, .inr hcb, by omega, ⟨by rw [show ((low + wide : Nat) : Int) = (low : Int) + wide by omega]; exact h1, h2, ?_, by omega, by omega, Nat.le_refl _, by omega, hrr, hm0, ?_⟩⟩
    · have e3 : (splice (List.replicate (n - (high - low) + wide) (0 : Int)) 0 (zs.take low)).length = n - (high - low) + wide := by
        rw [length_splice _ _ _ (by rw [e1, List.length_replicate]; omega), List.length_replicate]
      rw [length_splice _ _ _ (by rw [e2, e3]; omega), e3]
    · rw [tx_wide zs n low high wide hl hn (by omega)]
      exact h.t
end
end Go.Proofs.YthhlchgnjdfpeaaDoor
