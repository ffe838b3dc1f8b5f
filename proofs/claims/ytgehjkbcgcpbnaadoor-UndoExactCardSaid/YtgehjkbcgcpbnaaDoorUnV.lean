/-
  THE REFERENCE's leaf.
-/
import Derived.Test.YtgehjkbcgcpbnaaDoorUnU
import Derived.Test.YtgehjkbcgcpbnaaDoorUnN
set_option linter.unusedVariables false
namespace Go.Proofs.YtgehjkbcgcpbnaaDoor
open Go Go.RowKit

theorem lf_all {L : List NodeS} {cur : Int} {i : Nat} {e : NodeS} (hO : Ord L) (he : L[i]? = some e) (hc : e.sq ≠ cur) (b : Bool) (hb : b = true ↔ ∀ (j : Nat) (x : NodeS), L[j]? = some x → x.pa ≠ e.sq) : lfB L cur i = b := by
  unfold lfB
  rw [he]
  simp only
  have h1 : (e.sq != cur) = true := by simp [hc]
  rw [h1, Bool.true_and]
  have h2 : ((L.drop (i + 1)).any fun x => x.pa == e.sq) = true ↔ ¬ ∀ (j : Nat) (x : NodeS), L[j]? = some x → x.pa ≠ e.sq := by
    rw [List.any_eq_true]
    constructor
    · rintro ⟨x, hx, hp⟩ h
      obtain ⟨k, hk, rfl⟩ := List.getElem_of_mem hx
      have hk2 : (L.drop (i + 1))[k]? = some (L.drop (i + 1))[k] := List.getElem?_eq_getElem hk
      rw [List.getElem?_drop] at hk2
      exact h _ _ hk2 (by simpa using hp)
    · intro h
      by_cases hx : ∃ x ∈ L.drop (i + 1), x.pa = e.sq
      · obtain ⟨x, hx, hp⟩ := hx
        exact ⟨x, hx, by simp [hp]⟩
      · exfalso
        refine h fun j x hj hp => ?_
        by_cases hji : j ≤ i
        · have hm := hO.pa x (List.mem_of_getElem? hj)
          by_cases hji2 : j = i
          · subst hji2
            rw [he] at hj
            injection hj with hj
            subst hj
            omega
          · have := hO.srt j i x e hj he (by omega)
            omega
        · refine hx ⟨x, ?_, hp⟩
          have : (L.drop (i + 1))[j - (i + 1)]? = some x := by rw [List.getElem?_drop, show i + 1 + (j - (i + 1)) = j by omega]; exact hj
          exact List.mem_of_getElem? this
  cases b with
  | true =>
    have h3 := hb.1 rfl
    cases h4 : ((L.drop (i + 1)).any fun x => x.pa == e.sq) with
    | true => exact absurd h3 (h2.1 h4)
    | false => rfl
  | false =>
    cases h4 : ((L.drop (i + 1)).any fun x => x.pa == e.sq) with
    | true => rfl
    | false =>
      exfalso
      have h5 : ¬ ¬ ∀ (j : Nat) (x : NodeS), L[j]? = some x → x.pa ≠ e.sq := fun h => by rw [h2.2 h] at h4; cases h4
      exact h5 fun h => by have := hb.2 h; cases this
def elr (L : List NodeS) (cur : Int) : Int := if elf L cur = 0 then -1 else (elf L cur : Nat)
set_option maxRecDepth 100000 in
set_option maxHeartbeats 8000000 in
theorem rleaf_any (ad : Addr) (n c : Nat) (L : List NodeS) (cur : Int) (w : World) (hA : Ng w (some ad) n L) (hn : n ≤ 100000) (hn1 : 1 ≤ n) (hT : Tabs w) (hO : Ord L) :
    Calls Tryd.prog 46 #[treeV (.slice (some ad) n c) cur] w fun r w' => r = .returned (.int .i64 (elr L cur)) ∧ Kept (fun _ => False) w w' := by
  have hl := hA.len
  have HK0 : Hid (Kept (fun _ => False) w (w.alloc (treeO (.slice (some ad) n c) cur))) := (Kept.refl _ w).alloc _
  have HI0 := Lib.hid (trh_new (c := c) (cur := cur) hT hA)
  obtain ⟨tb, htb⟩ : ∃ tb, w.heap.size = tb := ⟨_, rfl⟩
  have HTB := Lib.hid htb
  rw [htb] at HI0
  have HHL := Lib.hid hl
  have HO := Lib.hid hO
  obtain ⟨R, hR⟩ : ∃ R, elr L cur = R := ⟨_, rfl⟩
  rw [hR]
  have HR := Lib.hid hR
  clear htb hA hT hl hR hO
  go_enter Tryd.func46, Tryd.ntmps46
  go_upto_region 1 with fail
  simp only [HTB.out]
  simp only [treeO] at HI0 HK0
  generalize w.alloc _ = w0 at *
  go_wp2_with fail
  go_loopw [3] (fun v wr => ∃ i : Nat, 1 ≤ i ∧ i ≤ n ∧ v = .int .i64 i ∧ (∀ k, 1 ≤ k → k < i → lfB L cur k = false) ∧ Kept (fun _ => False) w0 wr) (fun v _ => n - (intOf v).toNat)
  case atStart => exact ⟨1, Nat.le_refl _, hn1, rfl, (fun k h1 h2 => by omega), Kept.refl _ _⟩
  case round =>
    obtain ⟨i, hi1, hin, rfl, hat, hkr⟩ := hrel
    have HAT := Lib.hid hat
    have HIr := Lib.hid (HI0.out.kept hkr)
    have HKr := Lib.hid hkr
    clear hat hkr
    obtain ⟨t0, t1⟩ := HIr.out.cells
    by_cases hlt : i < n
    · obtain ⟨e, he⟩ : ∃ e, L[i]? = some e := ⟨_, List.getElem?_eq_getElem (by rw [HHL.out]; exact hlt)⟩
      have f0 := (HIr.out.ng.nd he).2.c0
      have b1 : decide (i < n) = true := decide_eq_true hlt
      have b2 : decide ((i : Int) < (n : Int)) = true := decide_eq_true (by omega)
      have b3 : (0 : Int) ≤ (i : Int) := by omega
      have b4 : (i : Int) < (n : Int) := by omega
      have HE := Lib.hid he
      clear he
      go_upto_region 4 with fail
      clear b1 b2
      by_cases hsc : e.sq = cur
      · have hne : (e.sq == cur) = true := by simp [hsc]
        have HF : Hid (∀ k, 1 ≤ k → k < i + 1 → lfB L cur k = false) := fun k h1 h2 => by
          by_cases hk : k = i
          · subst hk
            unfold lfB
            rw [HE.out]
            simp [hsc]
          · exact HAT.out k h1 (by omega)
        clear hsc
        go_quiet (fail)
        go_wp2_with fail
        go_roundw
        case rel => exact ⟨i + 1, by omega, by omega, by go_num, HF.out, HKr.out.drewN _⟩
        case measure => simp [intOf]; omega
      · have hne : (e.sq == cur) = false := by rw [beq_eq_false_iff_ne]; exact hsc
        have HSC := Lib.hid hsc
        clear hsc
        go_quiet (fail)
        go_wp2_with fail
        clear hne t0 t1 f0
        go_loopw [4, 5] (fun bv v wr => ∃ (k : Nat) (b : Bool), k ≤ n ∧ bv = .bool b ∧ v = .int .i64 k ∧ (b = true ↔ ∀ (j : Nat) (x : NodeS), j < k → L[j]? = some x → x.pa ≠ e.sq) ∧ Kept (fun _ => False) w0 wr) (fun _ v _ => n - (intOf v).toNat)
        case atStart => exact ⟨0, true, Nat.zero_le _, rfl, rfl, ⟨fun _ j x hj => absurd hj (Nat.not_lt_zero _), fun _ => rfl⟩, HKr.out.drewN _⟩
        case round =>
          obtain ⟨k, b, hk, rfl, rfl, hb, hkq⟩ := hrel
          have HB := Lib.hid hb
          have HKq := Lib.hid hkq
          have HIq := Lib.hid (HI0.out.kept hkq)
          clear hb hkq
          obtain ⟨t0, t1⟩ := HIq.out.cells
          by_cases hkn : k < n
          · obtain ⟨x, hx⟩ : ∃ x, L[k]? = some x := ⟨_, List.getElem?_eq_getElem (by rw [HHL.out]; exact hkn)⟩
            have g1 := (HIq.out.ng.nd hx).2.c1
            have f0 := (HIq.out.ng.nd HE.out).2.c0
            have b1 : decide (k < n) = true := decide_eq_true hkn
            have b2 : decide ((k : Int) < (n : Int)) = true := decide_eq_true (by omega)
            have b5 : (0 : Int) ≤ (k : Int) := by omega
            have b6 : (k : Int) < (n : Int) := by omega
            have HX := Lib.hid hx
            clear hx
            go_upto_region 9 with fail
            clear b1 b2
            cases b with
            | false =>
              have HB2 : Hid (false = true ↔ ∀ (j : Nat) (y : NodeS), j < k + 1 → L[j]? = some y → y.pa ≠ e.sq) := ⟨fun h => (by cases h), fun h => HB.out.2 fun j y hj hy => h j y (by omega) hy⟩
              go_quiet (fail)
              go_wp2_with fail
              go_roundw
              case rel => exact ⟨k + 1, false, by omega, rfl, by go_num, HB2.out, HKq.out.drewN _⟩
              case measure => simp [intOf]; omega
            | true =>
              by_cases hp : x.pa = e.sq
              · have hpe : (x.pa != e.sq) = false := by simp [hp]
                have HB2 : Hid (false = true ↔ ∀ (j : Nat) (y : NodeS), j < k + 1 → L[j]? = some y → y.pa ≠ e.sq) := ⟨fun h => (by cases h), fun h => absurd hp (h k x (by omega) HX.out)⟩
                clear hp
                go_quiet (fail)
                go_wp2_with fail
                go_roundw
                case rel => exact ⟨k + 1, false, by omega, rfl, by go_num, HB2.out, HKq.out.drewN _⟩
                case measure => simp [intOf]; omega
              · have hpe : (x.pa != e.sq) = true := by simp [hp]
                have HB2 : Hid (true = true ↔ ∀ (j : Nat) (y : NodeS), j < k + 1 → L[j]? = some y → y.pa ≠ e.sq) := ⟨fun _ j y hj hy => by
                  by_cases h : j = k
                  · subst h
                    rw [HX.out] at hy
                    injection hy with hy
                    subst hy
                    exact hp
                  · exact HB.out.1 rfl j y (by omega) hy, fun _ => rfl⟩
                clear hp
                go_quiet (fail)
                go_wp2_with fail
                go_roundw
                case rel => exact ⟨k + 1, true, by omega, rfl, by go_num, HB2.out, HKq.out.drewN _⟩
                case measure => simp [intOf]; omega
          · obtain rfl : k = n := by omega
            have b1 : decide (k < k) = false := decide_eq_false (by omega)
            have b2 : decide ((k : Int) < (k : Int)) = false := decide_eq_false (by omega)
            have HLF : Hid (lfB L cur i = b) := lf_all HO.out HE.out HSC.out b ⟨fun h j x hx => HB.out.1 h j x (by have := get_lt hx; have := HHL.out; omega) hx, fun h => HB.out.2 fun j x _ hx => h j x hx⟩
            cases b with
            | true =>
              have HF : Hid (R = (i : Nat)) := by
                show _ = _
                rw [← HR.out]
                have h := elf_hit hi1 (by rw [HHL.out]; exact hlt) HLF.out HAT.out
                unfold elr
                rw [h, if_neg (by omega)]
              go_wp2_with fail
              go_ret
              exact ⟨by rw [HF.out]; rfl, HK0.out.trans HKq.out⟩
            | false =>
              have HF : Hid (∀ q, 1 ≤ q → q < i + 1 → lfB L cur q = false) := fun q h1 h2 => by
                by_cases hq : q = i
                · subst hq
                  exact HLF.out
                · exact HAT.out q h1 (by omega)
              go_wp2_with fail
              go_roundw
              case rel => exact ⟨i + 1, by omega, by omega, by go_num, HF.out, HKq.out⟩
              case measure => simp [intOf]; omega
    · obtain rfl : i = n := by omega
      have b1 : decide ((i : Int) < (i : Int)) = false := by simp
      have b2 : decide (i < i) = false := by simp
      have HF : Hid (R = -1) := by
        show _ = _
        rw [← HR.out]
        unfold elr
        rw [if_pos (elf_miss (fun k h1 h2 => HAT.out k h1 (by rw [HHL.out] at h2; exact h2)))]
      go_wp2_with fail
      go_ret
      exact ⟨by rw [HF.out]; rfl, HK0.out.trans HKr.out⟩
end Go.Proofs.YtgehjkbcgcpbnaaDoor
