/-
  CAUSAL ORDER: what is written over.
-/
import Derived.Test.YtpgicfbaefcbmaaDoorCbC
set_option linter.unusedVariables false
namespace Go.Proofs.YtpgicfbaefcbmaaDoor
open Go Go.RowKit

/-- A block of numbers, whatever they are. -/
def Ib (w : World) (s m : Nat) : Prop := ∃ cur : Array Value, w.heap[s]? = some (.cells cur 3 (0, 0)) ∧ cur.size = m
theorem Ib.kept {S : Nat → Prop} {w w' : World} {s m : Nat} (h : Ib w s m) (hk : Kept S w w') (hs : ¬ S s) : Ib w' s m := by
  obtain ⟨cur, h1, h2⟩ := h
  exact ⟨cur, (hk.block s (heap_lt h1) hs).trans h1, h2⟩
theorem Ib.cell {w : World} {s m j : Nat} (h : Ib w s m) (hj : j < m) : ∃ u, w.cell? ⟨s, j, none⟩ = some u := by
  obtain ⟨cur, h1, h2⟩ := h
  rw [cell_of_row w s j cur _ _ h1]
  exact ⟨cur[j], Array.getElem?_eq_getElem (by omega)⟩
theorem Ib.free {w : World} {s m : Nat} (h : Ib w s m) (j : Nat) : w.frozen? ⟨s, j, none⟩ = false := by
  obtain ⟨cur, h1, _⟩ := h
  exact frozen_of h1
theorem Ib.set {w : World} {s m : Nat} (h : Ib w s m) (j : Nat) (u : Value) : Ib (w.setCell ⟨s, j, none⟩ u) s m := by
  obtain ⟨cur, h1, h2⟩ := h
  exact ⟨_, heap_set h1 _, by simp [h2]⟩
theorem Vm.ib {w : World} {g cap : Nat} {l : List Int} (h : Vm w g cap l) : Ib w g cap := by
  obtain ⟨cur, h1, h2, _⟩ := h.h
  exact ⟨cur, h1, h2⟩
theorem Ib.news {w : World} {s m off n : Nat} (h : Ib w s m) (hn : off + n ≤ m) : ∃ olds : List Value, olds.length = n ∧ ∀ j u, olds[j]? = some u → w.cell? ((⟨s, off, none⟩ : Addr).add j) = some u := by
  obtain ⟨cur, h1, h2⟩ := h
  refine ⟨(cur.toList.drop off).take n, by rw [List.length_take, List.length_drop, Array.length_toList]; omega, fun j u hj => ?_⟩
  rw [addr_add, cell_of_row w s _ cur _ _ h1]
  rw [List.getElem?_take] at hj
  split at hj
  · rw [List.getElem?_drop] at hj
    simpa using hj
  · cases hj
theorem five_cell {W : World} {ty : TypeId} : ∀ j u, ([Value.int .i64 5] : List Value)[j]? = some u → (W.alloc (.cells #[.int .i64 5] ty)).cell? ((⟨W.heap.size, 0, none⟩ : Addr).add j) = some u := by
  intro j u hj
  rw [addr_add, cell_of_row _ _ _ _ _ _ (heap_alloc_new W _)]
  match j, hj with
  | 0, hj => simpa using hj
theorem five_one : ∀ u ∈ ([Value.int .i64 5] : List Value), u.oneCell' = true := by
  intro u hu
  obtain rfl := List.mem_singleton.1 hu
  rfl
set_option maxRecDepth 100000 in
set_option maxHeartbeats 2000000 in
/-- Four numbers of a block, written over; what stands behind them, too, where there is room. -/
theorem numbers_ib (s off m c : Nat) (w : World) (h : Ib w s m) (hm : off + 4 ≤ m) (hc : c = 4 ∨ off = 0 ∧ c = m) :
    Calls Tryd.prog 33 #[.slice (some ⟨s, off, none⟩) 4 c] w fun e w' => e = .returned (.tuple #[]) ∧ Ib w' s m ∧ Kept (fun q => q = s) w w' := by
  obtain ⟨i0, hi, hz0, hz1, hz2⟩ := info_parts info_int
  have HI := Lib.hid h
  clear h
  go_enter Tryd.func33, Tryd.ntmps33
  go_wp2_with fail
  go_loopw [2] (fun i wr => ∃ k : Nat, k ≤ 4 ∧ i = .int .i64 k ∧ Ib wr s m ∧ Kept (fun q => q = s) w wr) (fun i _ => 4 - (intOf i).toNat)
  case atStart => exact ⟨0, Nat.zero_le _, rfl, HI.out, Kept.refl _ _⟩
  case round =>
    obtain ⟨k, hk, rfl, hib, hkept⟩ := hrel
    have HB := Lib.hid hib
    have HK := Lib.hid hkept
    clear hib hkept
    by_cases hlt : k < 4
    · obtain ⟨u, hu⟩ := HB.out.cell (show off + k < m by omega)
      have hf := HB.out.free (off + k)
      have b1 : decide (k < 4) = true := decide_eq_true hlt
      have b2 : decide ((k : Int) < 4) = true := decide_eq_true (by omega)
      have t1 : (0 : Int) ≤ (k : Int) := by omega
      have HS := Lib.hid (HB.out.set (off + k) (.int .i64 (-99)))
      have HKS := Lib.hid (HK.out.setCell (p := ⟨s, off + k, none⟩) rfl (.int .i64 (-99)))
      go_wp2_with fail
      go_roundw
      case rel => exact ⟨k + 1, by omega, by go_num, HS.out, HKS.out⟩
      case measure => simp [intOf] <;> omega
    · obtain rfl : k = 4 := by omega
      have b1 : decide (((4 : Nat) : Int) < 4) = false := by decide
      have hka : Kept (fun _ => False) wr (wr.alloc (.cells #[.int .i64 5] 3)) := (Kept.refl _ _).alloc _
      have hba := HB.out.kept hka id
      by_cases hr : 4 < c
      · have hof : off = 0 ∧ c = m := by omega
        obtain ⟨rfl, rfl⟩ := hof
        obtain ⟨cur, h1, h2⟩ := hba
        have hrun := fun ty => run_append_room (P := Tryd.prog) (wr.alloc (.cells #[.int .i64 5] 3)) 30 ty 3 i0 Tryd.underlying30 hi s 4 c cur h1 ⟨wr.heap.size, 0, none⟩ 1 1 [.int .i64 5] (by rw [hz1]; rfl) five_cell five_one (by omega) (by rw [hz1]; simp; omega)
        rw [hz1] at hrun
        have hib9 : Ib ((wr.alloc (.cells #[.int .i64 5] 3)).setRow s (cur.toList.take (4 * 1) ++ [Value.int .i64 5] ++ cur.toList.drop (4 * 1 + [Value.int .i64 5].length)).toArray) s c := ⟨_, setRow_heap _ s cur _ _ _ h1, by
          have hcl : cur.toList.length = c := by rw [Array.length_toList]; exact h2
          rw [List.size_toArray, List.length_append, List.length_append, List.length_take, List.length_drop, hcl]
          simp
          omega⟩
        have hk9 : Kept (fun q => q = s) (wr.alloc (.cells #[.int .i64 5] 3)) ((wr.alloc (.cells #[.int .i64 5] 3)).setRow s (cur.toList.take (4 * 1) ++ [Value.int .i64 5] ++ cur.toList.drop (4 * 1 + [Value.int .i64 5].length)).toArray) := (Kept.refl (fun q => q = s) _).setRow rfl _
        generalize (wr.alloc (.cells #[.int .i64 5] 3)).setRow s (cur.toList.take (4 * 1) ++ [Value.int .i64 5] ++ cur.toList.drop (4 * 1 + [Value.int .i64 5].length)).toArray = w9 at *
        have HIB9 := Lib.hid hib9
        have HK9 := Lib.hid ((HK.out.trans hka.any).trans hk9)
        have HRUN := Lib.hid hrun
        clear hib9 hk9 hrun h1 h2
        go_wp2_with (at_builtin; refine wpList_plain rfl fun K hK' => ?_; have hrun := HRUN.out; unfold Oper.wp; simp [execOp, resolve, invoke, builtin, Act.eval, Array.getD, hrun, Result.andThen]; apply hK')
        go_end0
        exact ⟨rfl, HIB9.out, HK9.out⟩
      · obtain rfl : c = 4 := by omega
        obtain ⟨olds, ho1, ho2⟩ := hba.news hm
        have HBA := Lib.hid hba
        clear hba
        go_wp2_with (at_builtin; refine wpList_append_grows _ rfl (.tmp 12) (.tmp 13) 30 rfl 3 i0 (.int .i64 0) 1 8 Tryd.underlying30 hi hz0 hz1 hz2 rfl (by decide) (some ⟨s, off, none⟩) 4 4 olds rfl (fun h => by cases h) (by rw [ho1]) (fun b hb => by cases hb; exact ho2) ⟨_, 0, none⟩ 1 1 [.int .i64 5] rfl rfl five_cell five_one (by omega) (by unfold maxLen; omega) (by omega) ?_; intro v9 w9 _ hg9; have hk9 : Kept (fun _ => False) (wr.alloc (.cells #[.int .i64 5] 3)) w9 := (Kept.refl (fun _ => False) _).grown hg9; have HIB9 := Lib.hid (HBA.out.kept hk9 id); have HK9 := Lib.hid ((HK.out.trans hka.any).trans hk9.any); clear hg9 hk9)
        go_end0
        exact ⟨rfl, HIB9.out, HK9.out⟩
/-- A block of operations that is written over: those from an index on are still there. -/
def Gb (w : World) (g n s k : Nat) : Prop := ∃ cur : Array Value, w.heap[g]? = some (.cells cur 32 (0, 0)) ∧ n * 9 ≤ cur.size ∧ ∀ j, k ≤ j → j < n → cur[j * 9 + 8]? = some (.slice (some ⟨s, 4 * j, none⟩) 4 4)
theorem Gb.kept {S : Nat → Prop} {w w' : World} {g n s k : Nat} (h : Gb w g n s k) (hk : Kept S w w') (hs : ¬ S g) : Gb w' g n s k := by
  obtain ⟨cur, h1, h2⟩ := h
  exact ⟨cur, (hk.block g (heap_lt h1) hs).trans h1, h2⟩
theorem Gb.cell {w : World} {g n s k i : Nat} (h : Gb w g n s k) (hi : i < n * 9) : ∃ u, w.cell? ⟨g, i, none⟩ = some u := by
  obtain ⟨cur, h1, h2, _⟩ := h
  rw [cell_of_row w g i cur _ _ h1]
  exact ⟨cur[i], Array.getElem?_eq_getElem (by omega)⟩
theorem Gb.free {w : World} {g n s k : Nat} (h : Gb w g n s k) (j : Nat) : w.frozen? ⟨g, j, none⟩ = false := by
  obtain ⟨cur, h1, _⟩ := h
  exact frozen_of h1
theorem Gb.at_ {w : World} {g n s k : Nat} (h : Gb w g n s k) (hk : k < n) : w.cell? ⟨g, k * 9 + 8, none⟩ = some (.slice (some ⟨s, 4 * k, none⟩) 4 4) := by
  obtain ⟨cur, h1, _, h3⟩ := h
  rw [cell_of_row w g _ cur _ _ h1]
  exact h3 k (Nat.le_refl _) hk
theorem Gb.one {w : World} {g n s k o : Nat} (h : Gb w g n s k) (ho : o < k * 9) (u : Value) : Gb (w.setCell ⟨g, o, none⟩ u) g n s k := by
  obtain ⟨cur, h1, h2, h3⟩ := h
  refine ⟨_, heap_set h1 u, by simpa using h2, fun j hj hn => ?_⟩
  rw [Array.getElem?_setIfInBounds_ne (by omega)]
  exact h3 j hj hn
theorem Gb.next {w : World} {g n s k : Nat} (h : Gb w g n s k) : Gb w g n s (k + 1) := by
  obtain ⟨cur, h1, h2, h3⟩ := h
  exact ⟨cur, h1, h2, fun j hj hn => h3 j (by omega) hn⟩
theorem Xm.gb {w : World} {g c s n : Nat} {al : List OpS} (h : Xm w g c (cps s 0 al)) (hl : al.length = n) : Gb w g n s 0 := by
  obtain ⟨cur, h1, h2, h3⟩ := h.h
  have hle := h.le
  rw [cps_len, hl] at hle
  refine ⟨cur, h1, by rw [h2]; exact Nat.mul_le_mul_right _ hle, fun j _ hj => ?_⟩
  have hja : j < al.length := by omega
  have hg := cps_get s al 0 j
  rw [List.getElem?_eq_getElem hja, Option.map_some, Nat.zero_add] at hg
  have hc := h.cell (flatO_get hg (f := 8) rfl)
  rw [cell_of_row w g _ cur _ _ h1] at hc
  exact hc
set_option maxRecDepth 100000 in
set_option maxHeartbeats 4000000 in
/-- Operations, and what they have seen, written over. -/
theorem spoil_ops (A : Option Addr) (n c : Nat) (bl : List OpS) (N M : Nat) (w : World) (h : Own2 w N M A n c bl) (hn : bl.length = n) (hnn : n ≤ 20000) :
    Calls Tryd.prog 32 #[.slice A n c] w fun e w' => e = .returned (.tuple #[]) ∧ Kept (fun q => N ≤ q ∧ q < M) w w' := by
  by_cases h0 : n = 0
  · subst h0
    clear h hn
    go_enter Tryd.func32, Tryd.ntmps32
    go_wp2_with fail
    go_loopw [2] (fun i wr => i = .int .i64 ((0 : Nat) : Int) ∧ wr = w) (fun _ _ => 0)
    case atStart => exact ⟨rfl, rfl⟩
    case round =>
      obtain ⟨rfl, rfl⟩ := hrel
      go_wp2_with fail
      go_end0
      exact ⟨rfl, Kept.refl _ _⟩
  · rcases h with h | ⟨g, s, sc, al, rfl, rfl, hX, hV, h4, hNs, hNg, hgs⟩
    · exact absurd h h0
    · have hal : al.length = n := by rw [← hn, cps_len]
      have HGB := Lib.hid (hX.gb hal)
      have HIB := Lib.hid hV.ib
      have HM : Hid (4 * n ≤ sc) := by
        show _ ≤ _
        have h1 := hV.le
        rw [seens_len h4, hal] at h1
        exact h1
      have HNE := Lib.hid (And.intro hNs (And.intro hNg (And.intro hgs True.intro)))
      clear hX hV h4 hNs hNg hgs hal hn
      go_enter Tryd.func32, Tryd.ntmps32
      go_wp2_with fail
      go_loopw [2] (fun i wr => ∃ k : Nat, k ≤ n ∧ i = .int .i64 k ∧ Gb wr g n s k ∧ Ib wr s sc ∧ Kept (fun q => q = g ∨ q = s) w wr) (fun i _ => n - (intOf i).toNat)
      case atStart => exact ⟨0, Nat.zero_le _, rfl, HGB.out, HIB.out, Kept.refl _ _⟩
      case round =>
        obtain ⟨k, hk, rfl, hg, hi, hkept⟩ := hrel
        have HG := Lib.hid hg
        have HI := Lib.hid hi
        have HK := Lib.hid hkept
        clear hg hi hkept HGB HIB
        by_cases hlt : k < n
        · have e8 := HG.out.at_ hlt
          have cN := numbers_ib s (4 * k) sc 4 wr HI.out (by have := HM.out; omega) (.inl rfl)
          have b1 : decide (k < n) = true := decide_eq_true hlt
          have b2 : decide ((k : Int) < (n : Int)) = true := decide_eq_true (by omega)
          have t1 : (0 : Int) ≤ (k : Int) := by omega
          have t2 : (k : Int) < (n : Int) := by omega
          have ek : IntKind.i64.wrap ((k : Int) + 1) = (k : Int) + 1 := IntWalk.i64_in _ ⟨by omega, by omega⟩
          go_upto_region 4 with (go_at_call 33; refine cN.mono ?_; clear cN; rintro e w5 ⟨rfl, hi5, hk5⟩; have HI5 := Lib.hid hi5; have HG5 := Lib.hid (HG.out.kept hk5 (fun e => HNE.out.2.2.1 e)); have HK5 := Lib.hid (HK.out.trans (hk5.mono (fun q _ e => .inr e))); clear hi5 hk5 e8)
          obtain ⟨u0, c0⟩ := HG5.out.cell (show k * 9 < n * 9 by omega)
          obtain ⟨u1, c1⟩ := HG5.out.cell (show k * 9 + 1 < n * 9 by omega)
          obtain ⟨u2, c2⟩ := HG5.out.cell (show k * 9 + 2 < n * 9 by omega)
          obtain ⟨u3, c3⟩ := HG5.out.cell (show k * 9 + 3 < n * 9 by omega)
          obtain ⟨u4, c4⟩ := HG5.out.cell (show k * 9 + 4 < n * 9 by omega)
          obtain ⟨u5, c5⟩ := HG5.out.cell (show k * 9 + 5 < n * 9 by omega)
          obtain ⟨u6, c6⟩ := HG5.out.cell (show k * 9 + 6 < n * 9 by omega)
          obtain ⟨u7, c7⟩ := HG5.out.cell (show k * 9 + 7 < n * 9 by omega)
          obtain ⟨u8, c8⟩ := HG5.out.cell (show k * 9 + 8 < n * 9 by omega)
          have f0 := HG5.out.free (k * 9)
          have f1 := HG5.out.free (k * 9 + 1)
          have f2 := HG5.out.free (k * 9 + 2)
          have f3 := HG5.out.free (k * 9 + 3)
          have f4 := HG5.out.free (k * 9 + 4)
          have f5 := HG5.out.free (k * 9 + 5)
          have f6 := HG5.out.free (k * 9 + 6)
          have f7 := HG5.out.free (k * 9 + 7)
          have f8 := HG5.out.free (k * 9 + 8)
          go_wp2_with fail
          go_roundw
          case rel => exact ⟨k + 1, by omega, by go_num, (((((((((HG5.out.next.one (by omega) _).one (by omega) _).one (by omega) _).one (by omega) _).one (by omega) _).one (by omega) _).one (by omega) _).one (by omega) _).one (by omega) _), HI5.out.kept (((((((((((Kept.refl (fun q => q = g) w5).setCell (p := ⟨g, k * 9, none⟩) rfl _).setCell (p := ⟨g, k * 9 + 1, none⟩) rfl _).setCell (p := ⟨g, k * 9 + 2, none⟩) rfl _).setCell (p := ⟨g, k * 9 + 3, none⟩) rfl _).setCell (p := ⟨g, k * 9 + 4, none⟩) rfl _).setCell (p := ⟨g, k * 9 + 5, none⟩) rfl _).setCell (p := ⟨g, k * 9 + 6, none⟩) rfl _).setCell (p := ⟨g, k * 9 + 7, none⟩) rfl _).setCell (p := ⟨g, k * 9 + 8, none⟩) rfl _)) (fun e => HNE.out.2.2.1 e.symm), (((((((((HK5.out.setCell (p := ⟨g, k * 9, none⟩) (.inl rfl) _).setCell (p := ⟨g, k * 9 + 1, none⟩) (.inl rfl) _).setCell (p := ⟨g, k * 9 + 2, none⟩) (.inl rfl) _).setCell (p := ⟨g, k * 9 + 3, none⟩) (.inl rfl) _).setCell (p := ⟨g, k * 9 + 4, none⟩) (.inl rfl) _).setCell (p := ⟨g, k * 9 + 5, none⟩) (.inl rfl) _).setCell (p := ⟨g, k * 9 + 6, none⟩) (.inl rfl) _).setCell (p := ⟨g, k * 9 + 7, none⟩) (.inl rfl) _).setCell (p := ⟨g, k * 9 + 8, none⟩) (.inl rfl) _)⟩
          case measure => simp [intOf] <;> omega
        · obtain rfl : k = n := by omega
          have b1 : decide (k < k) = false := decide_eq_false (by omega)
          have b2 : decide ((k : Int) < (k : Int)) = false := decide_eq_false (by omega)
          go_wp2_with fail
          go_end0
          exact ⟨rfl, HK.out.mono (fun q _ e => by
            have e : q = g ∨ q = s := e
            have h1 := HNE.out
            show _ ∧ _
            rcases e with e | e <;> omega)⟩
end Go.Proofs.YtpgicfbaefcbmaaDoor
