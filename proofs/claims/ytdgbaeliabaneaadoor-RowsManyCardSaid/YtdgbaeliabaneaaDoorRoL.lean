/-
  A TREE OF ROWS: two linked; strings cloned.
-/
import Derived.Test.YtdgbaeliabaneaaDoorRoS
import Derived.Test.YtdgbaeliabaneaaDoorShelf3
set_option linter.unusedVariables false
namespace Go.Proofs.YtdgbaeliabaneaaDoor
open Go Go.RowKit

theorem clone_any (s : ByteArray) (w : World) (hs : s.size ≤ 1000000) : Calls Tryd.prog 37 #[.string s] w fun e w' => e = .returned (.string s) ∧ Kept (fun _ => False) w w' := by
  have h := Any.stringslite_Clone Tryd.lays316 s w (by omega)
  have h2 : Calls Tryd.prog 45 #[.string s] w fun e w' => e = .returned (.string s) ∧ Kept (fun _ => False) w w' := h.mono fun e w' ⟨he, hb⟩ => ⟨he, Kept.of_below hb⟩
  clear h
  go_enter Tryd.func37, Tryd.ntmps37
  go_wp2_with (go_at_call 45; refine h2.mono ?_; rintro e w1 ⟨rfl, hk1⟩; clear h2)
  go_ret
  exact ⟨rfl, hk1⟩
/-- In none of no blocks. -/
abbrev X0 : Nat → Prop := fun _ => False
/-- A tree of these rows, low. -/
def TreeOf (w : World) (v : Value) (L : List ByteArray) : Prop := ∃ t : Tr, TrM w X0 v t ∧ t.rows = L ∧ t.avl
/-- What a call tells that makes a tree. -/
def Got (w w' : World) (L : List ByteArray) (e : Ending) : Prop := (∃ v, e = .returned v ∧ TreeOf w' v L) ∧ Kept (fun _ => False) w w'
theorem TreeOf.kept {w w' : World} {v : Value} {L : List ByteArray} (h : TreeOf w v L) (hk : Kept (fun _ => False) w w') : TreeOf w' v L := by
  obtain ⟨t, h1, h2⟩ := h
  exact ⟨t, h1.keptF hk, h2⟩
theorem TreeOf.ptr {w : World} {v : Value} {L : List ByteArray} (h : TreeOf w v L) : ∃ p, v = .pointer p := by
  obtain ⟨t, h1, _⟩ := h
  exact h1.ptr
theorem TreeOf.keptT {S : Nat → Prop} {w w' : World} {v : Value} {L : List ByteArray} (h : TreeOf w v L) (hk : Kept S w w') (hs : ∀ q, S q → w.heap.size ≤ q ∨ ∃ cs ty f, w.heap[q]? = some (.cells cs ty f) ∧ ty ≠ 73) : TreeOf w' v L := by
  obtain ⟨t, h1, h2⟩ := h
  exact ⟨t, TrM.keptT hk hs h1, h2⟩
set_option maxRecDepth 100000 in
set_option maxHeartbeats 4000000 in
theorem link_any (va vb : Value) (LA LB : List ByteArray) (w : World) (ha : TreeOf w va LA) (hb : TreeOf w vb LB) (hO : OkL (LA ++ LB)) :
    Calls Tryd.prog 33 #[va, vb] w fun e w' => Got w w' (LA ++ LB) e := by
  obtain ⟨pa, rfl⟩ := ha.ptr
  obtain ⟨tb, hb1, rfl, hb2⟩ := hb
  cases tb with
  | nil =>
    have h1 : vb = .pointer none := hb1
    subst h1
    have HA := Lib.hid ha
    clear hb1 hb2 hO ha
    go_enter Tryd.func33, Tryd.ntmps33
    go_wp2
    go_ret
    exact ⟨⟨_, rfl, by simpa [Tr.rows] using HA.out⟩, Kept.refl _ w⟩
  | node l s r =>
    obtain ⟨x, LX, hx⟩ : ∃ x LX, (Tr.node l s r).rows = x :: LX := by
      cases h : (Tr.node l s r).rows with
      | nil => simp [Tr.rows] at h
      | cons x L => exact ⟨x, L, rfl⟩
    obtain ⟨B, hB⟩ : ∃ B, Tr.node l s r = B := ⟨_, rfl⟩
    obtain ⟨bb, hvb⟩ : ∃ bb, vb = .pointer (some ⟨bb, 0, none⟩) := by obtain ⟨b, _, _, e, _⟩ := hb1; exact ⟨b, e⟩
    subst hvb
    rw [hB] at hb1 hb2 hx hO ⊢
    clear hB
    have hsz : B.size = LX.length + 1 := by rw [B.size_rows, hx]; rfl
    have hBO : B.Ok := by rw [Tr.ok_rows]; exact hO.right
    obtain ⟨s1, s2⟩ := Tr.split_rows B 1 (by omega)
    have s3 := (Tr.split_ok B 1 hb2).2
    rw [hx] at s2
    simp only [List.drop_succ_cons, List.drop_zero] at s2
    obtain ⟨ta, ha1, hae, ha2⟩ := ha
    have HJO : Hid ((Tr.node ta x (Tr.split B 1).2).Ok) := by rw [Tr.ok_rows]; simp only [Tr.rows]; rw [s2, hae, ← hx]; exact hO
    have HFIN : Hid (∀ W v, TrM W X0 v (Tr.join ta x (Tr.split B 1).2) → TreeOf W v (LA ++ B.rows)) := fun W v h => ⟨_, h, by rw [Tr.join_rows, s2, hae, hx], (Tr.join_ok _ _ _ ha2 s3).1⟩
    have cF := find_any B (.pointer (some ⟨bb, 0, none⟩)) 0 X0 w hb1 (Nat.zero_le _) hBO
    have HSP : Hid (∀ W, Kept (fun _ => False) w W → Calls Tryd.prog 32 #[.pointer (some ⟨bb, 0, none⟩), .int .i64 1] W fun e w' => Parts W w' X0 (Tr.split B 1).1 (Tr.split B 1).2 e) := fun W hk => split_any X0 B _ 1 W (hb1.keptF hk) (fun q _ h => h) hBO (by omega)
    have HA := Lib.hid ha1
    have hx0 : B.rows[0]? = some x := by rw [hx]; rfl
    have HX0 := Lib.hid hx0
    obtain ⟨n1, hn1⟩ : ∃ n : Nat, byL (B.rows.take 0) = n := ⟨_, rfl⟩
    obtain ⟨n2, hn2⟩ : ∃ n : Nat, ruL (B.rows.take 0) = n := ⟨_, rfl⟩
    unfold Found at cF
    rw [hn1, hn2] at cF
    obtain ⟨T1, hT1⟩ : ∃ T, (Tr.split B 1).1 = T := ⟨_, rfl⟩
    obtain ⟨T2, hT2⟩ : ∃ T, (Tr.split B 1).2 = T := ⟨_, rfl⟩
    rw [hT1, hT2] at HSP
    rw [hT2] at HJO HFIN
    clear ha1 hae ha2 hb1 hb2 hO hBO s1 s2 s3 hx hsz hx0 hn1 hn2 hT1 hT2
    go_enter Tryd.func33, Tryd.ntmps33
    go_wp2_with (first
      | (go_at_call 38; refine cF.mono ?_; rintro e w1 ⟨p, rfl, ⟨q, rfl⟩, hp, hk1⟩; obtain ⟨b1, hb1, hc1⟩ := hp x HX0.out; injection hb1 with hb1; subst hb1; have HK1 := Lib.hid hk1; have HC1 := Lib.hid hc1; clear cF hk1 hc1 hp; have HKA : Hid (Kept (fun _ => False) w (w1.alloc (.cells #[.int .i64 0, .int .i64 (n1 : Nat), .int .i64 (n2 : Nat)] 69))) := HK1.out.alloc _; have HKB : Hid (Kept (fun _ => False) w1 (w1.alloc (.cells #[.int .i64 0, .int .i64 (n1 : Nat), .int .i64 (n2 : Nat)] 69))) := (Kept.refl _ w1).alloc _; have cS := HSP.out _ HKA.out)
      | (go_at_call 32; refine cS.mono ?_; rintro e w2 ⟨⟨v1, v2, rfl, hv1, hv2⟩, hk2⟩; have HK2 := Lib.hid (HKA.out.trans hk2); have f0 := cell_kept (HKB.out.trans hk2) HC1.out id; have cJ := join_any X0 x ta T2 (.pointer pa) v2 w2 (HA.out.keptF HK2.out) hv2 (fun q _ h => h) HJO.out; clear cS hk2 hv1 hv2)
      | (go_at_call 43; refine cJ.mono ?_; rintro e w3 ⟨⟨v3, rfl, hv3⟩, hk3⟩; have HK3 := Lib.hid (HK2.out.trans hk3); have HV3 := Lib.hid hv3; clear cJ hk3 hv3))
    go_ret
    exact ⟨⟨_, rfl, HFIN.out _ _ HV3.out⟩, HK3.out⟩
theorem treeX {w : World} {T : Nat} {v : Value} (h : w.heap[T]? = some (.cells #[v] 58)) : w.cell? ⟨T, 0, none⟩ = some v := cell_of_row _ _ _ _ _ _ h
/-- A tree behind a pointer. -/
structure Tree (w : World) (T : Nat) (L : List ByteArray) : Prop where
  at_ : ∃ v, w.heap[T]? = some (.cells #[v] 58) ∧ TreeOf w v L
  ok : OkL L
theorem Tree.kept {w w' : World} {T : Nat} {L : List ByteArray} (h : Tree w T L) (hk : Kept (fun _ => False) w w') : Tree w' T L := by
  obtain ⟨v, h1, h2⟩ := h.at_
  exact ⟨⟨v, (hk.block _ (heap_lt h1) id).trans h1, h2.kept hk⟩, h.ok⟩
theorem Tree.keptT {S : Nat → Prop} {w w' : World} {T : Nat} {L : List ByteArray} (h : Tree w T L) (hk : Kept S w w') (hs : ∀ q, S q → w.heap.size ≤ q ∨ ∃ cs ty f, w.heap[q]? = some (.cells cs ty f) ∧ ty ≠ 73 ∧ ty ≠ 58) : Tree w' T L := by
  obtain ⟨v, h1, h2⟩ := h.at_
  refine ⟨⟨v, (hk.block _ (heap_lt h1) (fun hq => ?_)).trans h1, h2.keptT hk (fun q hq => ?_)⟩, h.ok⟩
  · rcases hs _ hq with h3 | ⟨cs, ty, f, h3, _, h4⟩
    · have := heap_lt h1; omega
    · exact block_ne h1 h3 (fun e => h4 e.symm) rfl
  · rcases hs _ hq with h3 | ⟨cs, ty, f, h3, h4, _⟩
    · exact .inl h3
    · exact .inr ⟨cs, ty, f, h3, h4⟩
set_option maxRecDepth 100000 in
theorem len_any (T : Nat) (L : List ByteArray) (w : World) (h : Tree w T L) : Calls Tryd.prog 21 #[.pointer (some ⟨T, 0, none⟩)] w fun e w' => e = .returned (.int .i64 (L.length : Nat)) ∧ Kept (fun _ => False) w w' := by
  obtain ⟨v, h1, t, h2, rfl, _⟩ := h.at_
  have f0 := treeX h1
  have cS := sum_any t v X0 w h2
  obtain ⟨p, rfl⟩ := h2.ptr
  have hfl := fun W => field0 (t.size : Nat) (t.by_ : Nat) (t.ru : Nat) W
  rw [← Tr.size_rows]
  clear h1 h2 h
  go_enter Tryd.func21, Tryd.ntmps21
  go_wp2_with (go_at_call 39; refine cS.mono ?_; rintro e w1 ⟨rfl, hk1⟩; clear cS)
  go_ret
  exact ⟨rfl, hk1⟩
set_option maxRecDepth 100000 in
theorem bytes_any (T : Nat) (L : List ByteArray) (w : World) (h : Tree w T L) : Calls Tryd.prog 30 #[.pointer (some ⟨T, 0, none⟩)] w fun e w' => e = .returned (.int .i64 (byL L : Nat)) ∧ Kept (fun _ => False) w w' := by
  obtain ⟨v, h1, t, h2, rfl, _⟩ := h.at_
  have f0 := treeX h1
  have cS := sum_any t v X0 w h2
  obtain ⟨p, rfl⟩ := h2.ptr
  have hfl := fun W => field1 (t.size : Nat) (t.by_ : Nat) (t.ru : Nat) W
  rw [← Tr.by_rows]
  clear h1 h2 h
  go_enter Tryd.func30, Tryd.ntmps30
  go_wp2_with (go_at_call 39; refine cS.mono ?_; rintro e w1 ⟨rfl, hk1⟩; clear cS)
  go_ret
  exact ⟨rfl, hk1⟩
set_option maxRecDepth 100000 in
theorem truns_any (T : Nat) (L : List ByteArray) (w : World) (h : Tree w T L) : Calls Tryd.prog 31 #[.pointer (some ⟨T, 0, none⟩)] w fun e w' => e = .returned (.int .i64 (ruL L : Nat)) ∧ Kept (fun _ => False) w w' := by
  obtain ⟨v, h1, t, h2, rfl, _⟩ := h.at_
  have f0 := treeX h1
  have cS := sum_any t v X0 w h2
  obtain ⟨p, rfl⟩ := h2.ptr
  have hfl := fun W => field2 (t.size : Nat) (t.by_ : Nat) (t.ru : Nat) W
  rw [← Tr.ru_rows]
  clear h1 h2 h
  go_enter Tryd.func31, Tryd.ntmps31
  go_wp2_with (go_at_call 39; refine cS.mono ?_; rintro e w1 ⟨rfl, hk1⟩; clear cS)
  go_ret
  exact ⟨rfl, hk1⟩
/-- A low tree's height, by what it has. -/
theorem Tr.low (t : Tr) : t.avl → 2 ^ (t.ht / 2) ≤ t.size + 1 := by
  suffices H : ∀ n (t : Tr), t.ht ≤ n → t.avl → 2 ^ (t.ht / 2) ≤ t.size + 1 from H _ t (Nat.le_refl _)
  intro n
  induction n using Nat.strongRecOn with
  | _ n ih =>
    intro t hn ha
    match t, ha with
    | .nil, _ => simp [Tr.ht, Tr.size]
    | .node l s r, ⟨hl, hr, h1, h2⟩ =>
      have hh : (Tr.node l s r).ht = 1 + max l.ht r.ht := rfl
      have hs : (Tr.node l s r).size = l.size + 1 + r.size := rfl
      rw [hs]
      by_cases h0 : (Tr.node l s r).ht < 2
      · rw [show (Tr.node l s r).ht / 2 = 0 by omega]; simp
      · have il := ih l.ht (by omega) l (Nat.le_refl _) hl
        have ir := ih r.ht (by omega) r (Nat.le_refl _) hr
        have e : (Tr.node l s r).ht / 2 = ((Tr.node l s r).ht - 2) / 2 + 1 := by omega
        have pl : 2 ^ (((Tr.node l s r).ht - 2) / 2) ≤ 2 ^ (l.ht / 2) := Nat.pow_le_pow_right (by omega) (Nat.div_le_div_right (by omega))
        have pr : 2 ^ (((Tr.node l s r).ht - 2) / 2) ≤ 2 ^ (r.ht / 2) := Nat.pow_le_pow_right (by omega) (Nat.div_le_div_right (by omega))
        rw [e, Nat.pow_succ]
        omega
/-- How many bits a number has. -/
def bitsN (n : Nat) : Nat := if h : n = 0 then 0 else 1 + bitsN (n / 2)
decreasing_by omega
theorem bits_pow (n : Nat) : n < 2 ^ bitsN n := by
  induction n using Nat.strongRecOn with
  | _ n ih =>
    rw [bitsN]
    split
    · omega
    · have := ih (n / 2) (by omega)
      rw [Nat.add_comm, Nat.pow_succ]
      omega
theorem Tr.low_bits (t : Tr) (h : t.avl) : t.ht ≤ 1 + 2 * bitsN t.size := by
  have h1 := t.low h
  have h2 := bits_pow t.size
  have h3 : 2 ^ (t.ht / 2) ≤ 2 ^ bitsN t.size := by omega
  have h4 : t.ht / 2 ≤ bitsN t.size := (Nat.pow_le_pow_iff_right (by omega)).1 h3
  omega
set_option maxRecDepth 100000 in
theorem height_any (T : Nat) (L : List ByteArray) (w : World) (h : Tree w T L) : Calls Tryd.prog 22 #[.pointer (some ⟨T, 0, none⟩)] w fun e w' => (∃ h : Nat, e = .returned (.int .i64 (h : Nat)) ∧ h ≤ 1 + 2 * bitsN L.length ∧ (L ≠ [] → 1 ≤ h)) ∧ w' = w := by
  obtain ⟨v, h1, t, h2, rfl, h3⟩ := h.at_
  have f0 := treeX h1
  have cS := tall_any t v X0 w h2
  obtain ⟨p, rfl⟩ := h2.ptr
  have hlow := t.low_bits h3
  rw [Tr.size_rows] at hlow
  have hpos : t.rows ≠ [] → 1 ≤ t.ht := by
    intro hne
    cases t with
    | nil => exact absurd rfl hne
    | node l s r => simp only [Tr.ht]; omega
  generalize t.ht = H at *
  clear h1 h2 h
  go_enter Tryd.func22, Tryd.ntmps22
  go_wp2_with (go_at_call 40; refine cS.mono ?_; rintro e w1 ⟨rfl, hw⟩; have hw2 := hw.symm; subst hw2; clear cS)
  go_ret
  exact ⟨⟨H, rfl, hlow, hpos⟩, rfl⟩
end Go.Proofs.YtdgbaeliabaneaaDoor
