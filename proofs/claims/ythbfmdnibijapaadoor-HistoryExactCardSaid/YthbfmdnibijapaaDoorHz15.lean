/-
  THE REFERENCE's Tree: whether one may be.
  HISTORY: ways of a tree; how many steps the reference counts.
  HISTORY: links of nodes that went, dropped.
-/
import Derived.Test.YthbfmdnibijapaaDoorUnT
import Derived.Test.YthbfmdnibijapaaDoorUnS
import Derived.BigQuiet
import Derived.Test.YthbfmdnibijapaaDoorHz12
import Derived.Test.YthbfmdnibijapaaDoorHz11
import Derived.Test.YthbfmdnibijapaaDoorHz09
set_option linter.unusedVariables false
namespace Go.Proofs.YthbfmdnibijapaaDoor
open Go Go.RowKit

set_option maxRecDepth 100000 in
theorem rmay_any (s : ByteArray) (w : World) (hs : s.size ≤ 140737488351232) (hT : Tabs w) :
    Calls Tryd.prog 8 #[.string s] w fun e w' => e = .returned (.bool (mayB s)) ∧ Kept (fun _ => False) w w' := by
  by_cases h1 : s.size ≤ 4000
  · have cV := valid_any s w (by omega) hT
    have HT := Lib.hid hT
    clear hT
    have b1 : decide (4000 < s.size) = false := by simp; omega
    have b2 : decide (4000 < (s.size : Int)) = false := by simp; omega
    cases hv : Lib.validD s.data.toList
    · have hm : mayB s = false := by unfold mayB; rw [hv]; simp
      rw [hm]
      rw [hv] at cV
      clear hv hm
      go_enter Tryd.func8, Tryd.ntmps8
      go_wp2_with (go_at_call 30; refine cV.mono ?_; rintro e w1 ⟨rfl, hk1⟩)
      go_ret
      exact ⟨rfl, hk1⟩
    · have hm : mayB s = s.data.toList.all fun b => b != 0 := by
        unfold mayB
        rw [hv]
        simp [h1]
      obtain ⟨V, hV⟩ : ∃ V, mayB s = V := ⟨_, rfl⟩
      rw [hV]
      rw [hV] at hm
      have HM := Lib.hid hm
      rw [hv] at cV
      clear hm hv hV
      go_enter Tryd.func8, Tryd.ntmps8
      go_wp2_with (go_at_call 30; refine cV.mono ?_; rintro e w1 ⟨rfl, hk1⟩)
      have HK := Lib.hid hk1
      clear hk1
      go_loop [3] (fun v => ∃ k : Nat, k ≤ s.size ∧ v = .int .i64 k ∧ (s.data.toList.take k).all (fun b => b != 0) = true) (fun v => s.size - (intOf v).toNat)
      case atStart => exact ⟨0, Nat.zero_le _, rfl, rfl⟩
      case round =>
        obtain ⟨k, hk, rfl, hall⟩ := hrel
        have HA := Lib.hid hall
        clear hall
        by_cases hlt : k < s.size
        · obtain ⟨b, hb⟩ : ∃ b, s[k]'hlt = b := ⟨_, rfl⟩
          have hlist : Hid (s.data.toList[k]? = some b) := by
            rw [← hb]
            exact byte_at s k hlt
          by_cases h0 : b = 0
          · have b3 : ((b.toNat : Int) == 0) = true := by rw [h0]; rfl
            have hV : Hid (V = false) := by
              show _ = _
              rw [HM.out, List.all_eq_false]
              exact ⟨b, List.mem_of_getElem? hlist.out, by rw [h0]; decide⟩
            clear h0
            go_wp2
            go_ret
            rw [hV.out]
            exact ⟨rfl, HK.out⟩
          · have b3 : ((b.toNat : Int) == 0) = false := by
              rw [beq_eq_false_iff_ne]
              intro h
              exact h0 (UInt8.toNat_inj.1 (by simp; omega))
            have H0 : Hid ((b != 0) = true) := by show _ = _; simpa using h0
            clear h0
            go_wp2
            go_round
            case rel =>
              refine ⟨k + 1, by omega, by go_num, ?_⟩
              rw [List.take_add_one, hlist.out, List.all_append, HA.out]
              simpa using H0.out
            case measure => simp [intOf]; omega
        · obtain rfl : k = s.size := by omega
          have hsz := Lib.size_eq s
          have hfin : Hid (V = true) := by
            show _ = _
            have h := HA.out
            rw [HM.out]
            rwa [List.take_of_length_le (by omega)] at h
          clear hsz
          go_wp2
          go_ret
          rw [hfin.out]
          exact ⟨rfl, HK.out⟩
  · have b1 : decide (4000 < s.size) = true := by simp; omega
    have b2 : decide (4000 < (s.size : Int)) = true := by simp; omega
    have hm : mayB s = false := by unfold mayB; simp [h1]
    rw [hm]
    clear hm hT
    go_enter Tryd.func8, Tryd.ntmps8
    go_wp2
    go_ret
    exact ⟨rfl, Kept.refl _ _⟩
def RA (i : Nat) (e : NodeS) : Prop := (i = 0 → e.sq = 0 ∧ e.pa = -1) ∧ (0 ≤ e.sq ∧ e.sq ≤ 1073741824) ∧ (0 ≤ e.at_ ∧ e.at_ ≤ 4000) ∧ mayB e.tx = true
def RB (L : List NodeS) (i : Nat) (e : NodeS) : Prop := 0 < i → (∀ p, L[i - 1]? = some p → p.sq < e.sq) ∧ e.pa < e.sq ∧ 0 ≤ idx L e.pa
theorem get_lt {L : List NodeS} {i : Nat} {e : NodeS} (h : L[i]? = some e) : i < L.length := by
  rcases Nat.lt_or_ge i L.length with h' | h'
  · exact h'
  · rw [List.getElem?_eq_none h'] at h; cases h
theorem idx_some {L : List NodeS} {z : Int} (h : 0 ≤ idx L z) : ∃ (j : Nat) (e : NodeS), idx L z = (j : Nat) ∧ L[j]? = some e ∧ e.sq = z := by
  unfold idx at h ⊢
  cases hf : L.findIdx? (fun e => decide (e.sq = z)) with
  | none => rw [hf] at h; simp at h
  | some j =>
    obtain ⟨hl, hp, _⟩ := List.findIdx?_eq_some_iff_getElem.1 hf
    exact ⟨j, L[j], rfl, List.getElem?_eq_getElem hl, by simpa using hp⟩
theorem idx_ge {L : List NodeS} {z : Int} {j : Nat} {e : NodeS} (h : L[j]? = some e) (hz : e.sq = z) : 0 ≤ idx L z := by
  unfold idx
  cases hf : L.findIdx? (fun e => decide (e.sq = z)) with
  | none =>
    rw [List.findIdx?_eq_none_iff] at hf
    have := hf e (List.mem_of_getElem? h)
    simp [hz] at this
  | some j => simp
/-- Nodes in order, each behind its parent. -/
structure Ord (L : List NodeS) : Prop where
  srt : Srt L
  pa : ∀ e ∈ L, e.pa < e.sq
  ge : ∀ e ∈ L, 0 ≤ e.sq
theorem ok_of_ref {L : List NodeS} (h : ∀ i e, L[i]? = some e → RA i e ∧ RB L i e) : ∀ i e, L[i]? = some e → OkN (L.take i) e := by
  have hs : Srt L := by
    have step : ∀ (d i : Nat) (a b : NodeS), L[i]? = some a → L[i + d + 1]? = some b → a.sq < b.sq := by
      intro d
      induction d with
      | zero =>
        intro i a b ha hb
        exact ((h (i + 0 + 1) b hb).2 (by omega)).1 a (by rw [show i + 0 + 1 - 1 = i by omega]; exact ha)
      | succ d ih =>
        intro i a b ha hb
        have hl := get_lt hb
        have hm : L[i + d + 1]? = some L[i + d + 1] := List.getElem?_eq_getElem (by omega)
        have h1 := ih i a _ ha hm
        have h2 := ((h (i + (d + 1) + 1) b hb).2 (by omega)).1 L[i + d + 1] (by rw [show i + (d + 1) + 1 - 1 = i + d + 1 by omega]; exact hm)
        omega
    intro i j a b ha hb hij
    have := step (j - i - 1) i a b ha
    rw [show i + (j - i - 1) + 1 = j by omega] at this
    exact this hb
  intro i e he
  obtain ⟨⟨h1, h2, h3, h4⟩, h5⟩ := h i e he
  refine ⟨?_, h3.1, h3.2, h4⟩
  by_cases hi : i = 0
  · subst hi
    exact h1 rfl
  · have hl := get_lt he
    have hp : (L.take i).getLast? = some L[i - 1] := by
      rw [List.getLast?_eq_getElem?, List.length_take, List.getElem?_take, if_pos (by omega), show min i L.length - 1 = i - 1 by omega]
      exact List.getElem?_eq_getElem (by omega)
    obtain ⟨h6, h7, h8⟩ := h5 (by omega)
    refine (pl_some hp).2 ⟨h6 _ (List.getElem?_eq_getElem (by omega)), h2.2, ?_⟩
    obtain ⟨j, e', hj, hje, hz⟩ := idx_some h8
    have hji : j < i := by
      rcases Nat.lt_or_ge j i with h' | h'
      · exact h'
      · exfalso
        by_cases hji : j = i
        · subst hji
          rw [he] at hje
          injection hje with hje
          subst hje
          omega
        · have := hs i j e e' he hje (by omega)
          omega
    exact idx_ge (j := j) (e := e') (by rw [List.getElem?_take, if_pos hji]; exact hje) hz
theorem ok_ord {L : List NodeS} (h : ∀ i e, L[i]? = some e → OkN (L.take i) e) : Ord L := by
  have hs := ok_srt h
  have h0 : ∀ e, L[0]? = some e → e.sq = 0 ∧ e.pa = -1 := fun e he => by
    have := (h 0 e he).1
    rw [List.take_zero] at this
    exact this
  have hge : ∀ (i : Nat) (e : NodeS), L[i]? = some e → 0 ≤ e.sq := fun i e he => by
    have hl := get_lt he
    have h1 : L[0]? = some L[0] := List.getElem?_eq_getElem (by omega)
    have h2 := (h0 _ h1).1
    by_cases hi : i = 0
    · subst hi
      rw [h1] at he
      injection he with he
      subst he
      omega
    · have := hs 0 i _ e h1 he (by omega)
      omega
  refine ⟨hs, fun e he => ?_, fun e he => ?_⟩
  · obtain ⟨i, hi, rfl⟩ := List.getElem_of_mem he
    have he' : L[i]? = some L[i] := List.getElem?_eq_getElem hi
    by_cases h0' : i = 0
    · subst h0'
      have := h0 _ he'
      omega
    · have hp : (L.take i).getLast? = some L[i - 1] := by
        rw [List.getLast?_eq_getElem?, List.length_take, List.getElem?_take, if_pos (by omega), show min i L.length - 1 = i - 1 by omega]
        exact List.getElem?_eq_getElem (by omega)
      obtain ⟨_, _, h8⟩ := (pl_some hp).1 (h i _ he').1
      obtain ⟨j, e', _, hje, hz⟩ := idx_some h8
      rw [List.getElem?_take] at hje
      split at hje
      · rename_i hji
        have := hs j i e' _ hje he' hji
        omega
      · cases hje
  · obtain ⟨i, hi, rfl⟩ := List.getElem_of_mem he
    exact hge i _ (List.getElem?_eq_getElem hi)
theorem ref_of_ok {L : List NodeS} (h : ∀ i e, L[i]? = some e → OkN (L.take i) e) : ∀ i e, L[i]? = some e → RA i e ∧ RB L i e := by
  have ho := ok_ord h
  intro i e he
  have hm := List.mem_of_getElem? he
  obtain ⟨h1, h2, h3, h4⟩ := h i e he
  by_cases hi : i = 0
  · subst hi
    rw [List.take_zero] at h1
    have h1 : e.sq = 0 ∧ e.pa = -1 := h1
    exact ⟨⟨fun _ => h1, ⟨ho.ge e hm, by omega⟩, ⟨h2, h3⟩, h4⟩, fun h => absurd h (by omega)⟩
  · have hl := get_lt he
    have hp : (L.take i).getLast? = some L[i - 1] := by
      rw [List.getLast?_eq_getElem?, List.length_take, List.getElem?_take, if_pos (by omega), show min i L.length - 1 = i - 1 by omega]
      exact List.getElem?_eq_getElem (by omega)
    obtain ⟨h6, h7, h8⟩ := (pl_some hp).1 h1
    refine ⟨⟨fun h => absurd h hi, ⟨ho.ge e hm, h7⟩, ⟨h2, h3⟩, h4⟩, fun _ => ⟨fun p hp' => ?_, ho.pa e hm, ?_⟩⟩
    · rw [List.getElem?_eq_getElem (by omega)] at hp'
      injection hp' with hp'
      subst hp'
      exact h6
    · obtain ⟨j, e', _, hje, hz⟩ := idx_some h8
      rw [List.getElem?_take] at hje
      split at hje
      · exact idx_ge hje hz
      · cases hje
end Go.Proofs.YthbfmdnibijapaaDoor
namespace Go.Proofs.YthbfmdnibijapaaDoor
open Go Go.RowKit

/-- A tree whose nodes lie in order, each behind its parent. -/
structure Tr8 (L : List NodeS) : Prop where
  ord : Ord L
  par : ∀ (i : Nat) (e : NodeS), L[i]? = some e → 0 < i → ∃ (j : Nat) (p : NodeS), L[j]? = some p ∧ p.sq = e.pa
  may : ∀ e ∈ L, mayB e.tx = true
  le : L.length ≤ 64
theorem Tr8.par' {L : List NodeS} (h : Tr8 L) {i : Nat} {e : NodeS} (he : L[i]? = some e) (hi : 0 < i) : ∃ (j : Nat) (p : NodeS), L[j]? = some p ∧ p.sq = e.pa ∧ j < i := by
  obtain ⟨j, p, hp, hq⟩ := h.par i e he hi
  refine ⟨j, p, hp, hq, ?_⟩
  have h1 := h.ord.pa e (List.mem_of_getElem? he)
  rcases Nat.lt_or_ge j i with h' | h'
  · exact h'
  · rcases Nat.eq_or_lt_of_le h' with h2 | h2
    · subst h2
      rw [he] at hp
      injection hp with hp
      subst hp
      omega
    · have h3 := h.ord.srt i j e p he hp h2
      omega
/-- The text of a Seq's node. -/
def txAt (L : List NodeS) (z : Int) : ByteArray := (L.getD (idx L z).toNat default).tx
theorem txAt_eq {L : List NodeS} (h : Tr8 L) {i : Nat} {e : NodeS} (he : L[i]? = some e) : txAt L e.sq = e.tx := by
  unfold txAt
  rw [idx_hit h.ord.srt he rfl, List.getD_eq_getElem?_getD]
  show (L[i]?.getD default).tx = _
  rw [he]
  rfl
/-- The ways of a tree. -/
def treeG (L : List NodeS) (z : Int) : Option (Int × PatS × PatS) :=
  if 1 ≤ idx L z then some ((L.getD (idx L z).toNat default).pa, bt (txAt L (L.getD (idx L z).toNat default).pa) (txAt L z), bt (txAt L z) (txAt L (L.getD (idx L z).toNat default).pa)) else none
theorem treeG_at {L : List NodeS} (h : Tr8 L) {i j : Nat} {e p : NodeS} (he : L[i]? = some e) (hi : 0 < i) (hp : L[j]? = some p) (hq : p.sq = e.pa) : treeG L e.sq = some (p.sq, bt p.tx e.tx, bt e.tx p.tx) := by
  have h1 : idx L e.sq = (i : Nat) := idx_hit h.ord.srt he rfl
  have h2 : L.getD (idx L e.sq).toNat default = e := by
    rw [h1, List.getD_eq_getElem?_getD]
    show L[i]?.getD default = _
    rw [he]
    rfl
  unfold treeG
  rw [if_pos (by rw [h1]; omega), h2, ← hq, txAt_eq h he, txAt_eq h hp]
theorem chain_app : ∀ (s : ByteArray) (Q : List ByteArray) (z t : ByteArray), (s :: Q).getLast? = some z → chain s (Q ++ [t]) = chain s Q ++ [bt z t]
  | s, [], z, t, h => by
    simp at h
    subst h
    rfl
  | s, q :: Q, z, t, h => by
    rw [List.getLast?_cons_cons] at h
    show bt s q :: chain q (Q ++ [t]) = bt s q :: chain q Q ++ [bt z t]
    rw [chain_app q Q z t h]
    rfl
theorem last_app (s : ByteArray) (Q : List ByteArray) (t : ByteArray) : (s :: (Q ++ [t])).getLast? = some t := by
  rw [← List.cons_append, List.getLast?_concat]
theorem way_ex {L : List NodeS} (h : Tr8 L) : ∀ (n i j : Nat) (e f : NodeS), i + j = n → L[i]? = some e → L[j]? = some f →
    ∃ (U D : List PatS) (Q : List ByteArray), Way (treeG L) e.sq f.sq U D ∧ U ++ D.reverse = chain e.tx Q ∧ (e.tx :: Q).getLast? = some f.tx ∧ (∀ x ∈ Q, mayB x = true) ∧ Q.length = U.length + D.length ∧ U.length + D.length ≤ i + j := by
  intro n
  induction n using Nat.strongRecOn with
  | _ n ih =>
    intro i j e f hn he hf
    rcases Nat.lt_trichotomy i j with hlt | heq | hgt
    · obtain ⟨j', p, hp, hq, hj⟩ := h.par' hf (by omega)
      obtain ⟨U, D, Q, h1, h2, h3, h4, h5, h6⟩ := ih (i + j') (by omega) i j' e p rfl he hp
      have hs := h.ord.srt i j e f he hf hlt
      have hpl := h.ord.pa f (List.mem_of_getElem? hf)
      have hpg := h.ord.ge p (List.mem_of_getElem? hp)
      refine ⟨U, bt p.tx f.tx :: D, Q ++ [f.tx], .down hs (treeG_at h hf (by omega) hp hq) ⟨hpg, by omega⟩ h1, ?_, last_app _ _ _, ?_, ?_, ?_⟩
      · rw [List.reverse_cons, ← List.append_assoc, h2, chain_app _ _ _ _ h3]
      · intro x hx
        rcases List.mem_append.1 hx with hx | hx
        · exact h4 x hx
        · rw [List.mem_singleton.1 hx]; exact h.may f (List.mem_of_getElem? hf)
      · simp [h5]; omega
      · simp; omega
    · subst heq
      rw [he] at hf
      injection hf with hf
      subst hf
      exact ⟨[], [], [], .done _, rfl, rfl, (fun x hx => by cases hx), rfl, by simp⟩
    · obtain ⟨i', p, hp, hq, hj⟩ := h.par' he (by omega)
      obtain ⟨U, D, Q, h1, h2, h3, h4, h5, h6⟩ := ih (i' + j) (by omega) i' j p f rfl hp hf
      have hs := h.ord.srt j i f e hf he hgt
      have hpl := h.ord.pa e (List.mem_of_getElem? he)
      have hpg := h.ord.ge p (List.mem_of_getElem? hp)
      refine ⟨bt e.tx p.tx :: U, D, p.tx :: Q, .up hs (treeG_at h he (by omega) hp hq) ⟨hpg, by omega⟩ h1, ?_, ?_, ?_, ?_, ?_⟩
      · show bt e.tx p.tx :: (U ++ D.reverse) = bt e.tx p.tx :: chain p.tx Q
        rw [h2]
      · rw [List.getLast?_cons_cons]; exact h3
      · intro x hx
        rcases List.mem_cons.1 hx with hx | hx
        · rw [hx]; exact h.may p (List.mem_of_getElem? hp)
        · exact h4 x hx
      · simp [h5]; omega
      · simp; omega
/-- What a way needs of nodes alone. -/
def GoodN (L : List NodeS) (G : Int → Option (Int × PatS × PatS)) : Prop := ∀ z q d u, G z = some (q, d, u) → ∃ (i : Nat) (e : NodeS), idx L z = (i : Nat) ∧ L[i]? = some e ∧ e.pa = q
theorem treeG_goodN {L : List NodeS} (h : Tr8 L) : GoodN L (treeG L) := by
  intro z q d u hz
  unfold treeG at hz
  split at hz
  · rename_i h1
    obtain ⟨i, e, hi, he, _⟩ := idx_some (show 0 ≤ idx L z by omega)
    have h2 : L.getD (idx L z).toNat default = e := by
      rw [hi, List.getD_eq_getElem?_getD]
      show L[i]?.getD default = _
      rw [he]
      rfl
    rw [h2] at hz
    simp only [Option.some.injEq, Prod.mk.injEq] at hz
    exact ⟨i, e, hi, he, hz.1⟩
  · cases hz
set_option maxRecDepth 100000 in
set_option maxHeartbeats 4000000 in
theorem rway_any (ad : Addr) (n c : Nat) (L : List NodeS) (cur : Int) (G : Int → Option (Int × PatS × PatS)) (f0 t0 : Int) (U0 D0 : List PatS) (w : World) (hA : Ng w (some ad) n L) (hn : n ≤ 100000) (hG : GoodN L G) (hW : Way G f0 t0 U0 D0) (hl : U0.length + D0.length ≤ 100000) (hf : 0 ≤ f0) (ht : 0 ≤ t0) :
    Calls Tryd.prog 17 #[treeV (.slice (some ad) n c) cur, .int .i64 f0, .int .i64 t0] w fun r w' => r = .returned (.int .i64 ((U0.length + D0.length : Nat) : Int)) ∧ Kept (fun _ => False) w w' := by
  have HK0 : Hid (Kept (fun _ => False) w (w.alloc (treeO (.slice (some ad) n c) cur))) := (Kept.refl _ w).alloc _
  have HT0 := Lib.hid (heap_alloc_new w (treeO (.slice (some ad) n c) cur))
  have HA0 := Lib.hid (hA.kept HK0.out (fun _ _ => id))
  obtain ⟨tb, htb⟩ : ∃ tb, w.heap.size = tb := ⟨_, rfl⟩
  have HTB := Lib.hid htb
  rw [htb] at HT0
  have HG := Lib.hid hG
  have HWY := Lib.hid hW
  obtain ⟨N, hN⟩ : ∃ N, U0.length + D0.length = N := ⟨_, rfl⟩
  have HN := Lib.hid hN
  rw [hN] at hl ⊢
  clear htb hA hG hW hN
  go_enter Tryd.func17, Tryd.ntmps17
  go_upto_region 1 with fail
  simp only [HTB.out]
  simp only [treeO] at HK0 HT0 HA0
  generalize w.alloc _ = w0 at *
  go_wp2_with fail
  go_loopw [1, 2, 7] (fun a b v wr => ∃ (f t : Int) (U D : List PatS) (k : Nat), a = .int .i64 f ∧ b = .int .i64 t ∧ v = .int .i64 k ∧ 0 ≤ f ∧ 0 ≤ t ∧ Way G f t U D ∧ k + U.length + D.length = N ∧ Kept (fun _ => False) w0 wr) (fun a b _ _ => (intOf a).toNat + (intOf b).toNat)
  case atStart => exact ⟨f0, t0, U0, D0, 0, rfl, rfl, rfl, hf, ht, HWY.out, by have := HN.out; omega, Kept.refl _ _⟩
  case round =>
    obtain ⟨f, t, U, D, k, rfl, rfl, rfl, hf', ht', hw, hk, hkept⟩ := hrel
    have HK := Lib.hid hkept
    have HKN := Lib.hid hk
    have hkb : k ≤ 100000 := by omega
    have KT : Hid (∀ W, Kept (fun _ => False) wr W → W.cell? ⟨tb, 0, none⟩ = some (.slice (some ad) n c) ∧ W.cell? ⟨tb, 1, none⟩ = some (.int .i64 cur)) := by
      show ∀ W, _
      intro W hkw
      have h1 := ((hkept.trans hkw).block tb (heap_lt HT0.out) id).trans HT0.out
      exact ⟨(tree_facts h1).1, (tree_facts h1).2.1⟩
    have HNr := Lib.hid (HA0.out.kept hkept (fun _ _ => id))
    clear hkept hk
    cases hw with
    | done =>
      have b1 : (f != f) = false := by simp
      have b2 : (f == f) = true := by simp
      have HE : Hid (k = N) := by have := HKN.out; simp at this; exact this
      go_wp2_with fail
      go_ret
      exact ⟨by rw [HE.out]; rfl, HK0.out.trans HK.out⟩
    | @up _ _ q d u U' _ hlt hg hq hr =>
      obtain ⟨i, e, hi, he, hpa⟩ := HG.out _ _ _ _ hg
      have b1 : (f != t) = true := by simp; omega
      have b2 : (f == t) = false := by rw [beq_eq_false_iff_ne]; omega
      have b3 : decide (t < f) = true := decide_eq_true hlt
      have hin : i < n := (HNr.out.nd he).1
      have t1 : (0 : Int) ≤ (i : Int) := by omega
      have t2 : (i : Int) < (n : Int) := by omega
      have cR := fun W (hW : Kept (fun _ => False) wr W) => rnode_any (some ad) n c L cur f W (HNr.out.kept hW (fun _ _ => id)) hn
      rw [hi] at cR
      have HCR := Lib.hid cR
      have KF : Hid (∀ W, Kept (fun _ => False) wr W → W.cell? ⟨tb, 0, none⟩ = some (.slice (some ad) n c) ∧ W.cell? ⟨tb, 1, none⟩ = some (.int .i64 cur) ∧ W.cell? ⟨(ad.add (i * 4)).block, (ad.add (i * 4)).off + 1, none⟩ = some (.int .i64 e.pa)) := fun W hW => ⟨(KT.out W hW).1, (KT.out W hW).2, ((HNr.out.kept hW (fun _ _ => id)).nd he).2.c1⟩
      rw [hpa] at KF
      have hdw : Kept (fun _ => False) wr wr.drew := (Kept.refl _ wr).drew
      have HDW := Lib.hid hdw
      have KA := KF.out wr.drew hdw
      have HR := Lib.hid hr
      clear hg hi he hpa cR hr hdw
      go_upto_region 4 with fail
      go_region_held3 (fun (W : World) => W.cell? ⟨tb, 0, none⟩ = some (.slice (some ad) n c) ∧ W.cell? ⟨tb, 1, none⟩ = some (.int .i64 cur) ∧ W.cell? ⟨(ad.add (i * 4)).block, (ad.add (i * 4)).off + 1, none⟩ = some (.int .i64 q))
        (first | with_reducible exact KB | with_reducible exact KA | fail)
        (first | (go_at_call 13; refine (HCR.out _ HDW.out).mono ?_; rintro r w3 ⟨rfl, hk3⟩; have HK3 := Lib.hid (HDW.out.trans hk3); have KB := KF.out w3 HK3.out; clear hk3))
      all_goals
        go_wp2_with fail
        go_roundw
        case rel => exact ⟨q, t, U', D, k + 1, rfl, rfl, by go_num, hq.1, ht', HR.out, by have := HKN.out; simp at this; omega, HK.out.trans HK3.out⟩
        case measure => simp [intOf] <;> omega
    | @down _ _ q d u _ D' hlt hg hq hr =>
      obtain ⟨i, e, hi, he, hpa⟩ := HG.out _ _ _ _ hg
      have b1 : (f != t) = true := by simp; omega
      have b2 : (f == t) = false := by rw [beq_eq_false_iff_ne]; omega
      have b3 : decide (t < f) = false := decide_eq_false (by omega)
      have hin : i < n := (HNr.out.nd he).1
      have t1 : (0 : Int) ≤ (i : Int) := by omega
      have t2 : (i : Int) < (n : Int) := by omega
      have cR := fun W (hW : Kept (fun _ => False) wr W) => rnode_any (some ad) n c L cur t W (HNr.out.kept hW (fun _ _ => id)) hn
      rw [hi] at cR
      have HCR := Lib.hid cR
      have KF : Hid (∀ W, Kept (fun _ => False) wr W → W.cell? ⟨tb, 0, none⟩ = some (.slice (some ad) n c) ∧ W.cell? ⟨tb, 1, none⟩ = some (.int .i64 cur) ∧ W.cell? ⟨(ad.add (i * 4)).block, (ad.add (i * 4)).off + 1, none⟩ = some (.int .i64 e.pa)) := fun W hW => ⟨(KT.out W hW).1, (KT.out W hW).2, ((HNr.out.kept hW (fun _ _ => id)).nd he).2.c1⟩
      rw [hpa] at KF
      have hdw : Kept (fun _ => False) wr wr.drew := (Kept.refl _ wr).drew
      have HDW := Lib.hid hdw
      have KA := KF.out wr.drew hdw
      have HR := Lib.hid hr
      clear hg hi he hpa cR hr hdw
      go_upto_region 5 with fail
      go_region_held3 (fun (W : World) => W.cell? ⟨tb, 0, none⟩ = some (.slice (some ad) n c) ∧ W.cell? ⟨tb, 1, none⟩ = some (.int .i64 cur) ∧ W.cell? ⟨(ad.add (i * 4)).block, (ad.add (i * 4)).off + 1, none⟩ = some (.int .i64 q))
        (first | with_reducible exact KB | with_reducible exact KA | fail)
        (first | (go_at_call 13; refine (HCR.out _ HDW.out).mono ?_; rintro r w3 ⟨rfl, hk3⟩; have HK3 := Lib.hid (HDW.out.trans hk3); have KB := KF.out w3 HK3.out; clear hk3))
      all_goals
        go_wp2_with fail
        go_roundw
        case rel => exact ⟨f, q, U, D', k + 1, rfl, rfl, by go_num, hf', hq.1, HR.out, by have := HKN.out; simp at this; omega, HK.out.trans HK3.out⟩
        case measure => simp [intOf] <;> omega
end Go.Proofs.YthbfmdnibijapaaDoor
namespace Go.Proofs.YthbfmdnibijapaaDoor
open Go Go.RowKit

theorem run_mkmap_hint (x : Int) (w : World) : (Instr.makeMap 64 (some (.int .i64 x))).run Tryd.prog w = .ok (.map (some w.heap.size)) (w.alloc (.map #[] 0)) := by
  simp [Instr.makeMap, run_underlying Tryd.underlying64, Result.andThen, asInt, newObj, Sem.run]
  rfl
theorem ng_drop {w : World} {ad : Addr} {n c : Nat} {L : List NodeS} (h : Ng w (some ad) n L) (hnc : n ≤ c) (hn : 1 ≤ n) : Ng w (if c = 1 then some ad else (some ad).map (·.add (1 * 4))) (n - 1) (L.drop 1) := by
  refine ⟨by rw [List.length_drop, h.len], fun k e he => ?_⟩
  rw [List.getElem?_drop] at he
  obtain ⟨hk, h4⟩ := h.nd he
  rw [if_neg (by omega)]
  refine ⟨ad.add (1 * 4), rfl, ?_⟩
  rw [Go.Deep.add_add, show 1 * 4 + k * 4 = (1 + k) * 4 by omega]
  exact h4
/-- Links of some nodes. -/
def keepL (kv : List (Int × Value)) (M : List NodeS) : List (Int × Value) := M.map (fun e => (e.sq, (kv.lookup e.sq).getD undef))
theorem lookup_none {l : List (Int × Value)} {z : Int} (h : ∀ p ∈ l, p.1 ≠ z) : l.lookup z = none := by
  induction l with
  | nil => rfl
  | cons p l ih =>
    have h1 := h p (List.mem_cons_self)
    rw [List.lookup_cons, show (z == p.1) = false by rw [beq_eq_false_iff_ne]; exact fun e => h1 e.symm]
    exact ih (fun q hq => h q (List.mem_cons_of_mem _ hq))
theorem keepL_has {kv : List (Int × Value)} {M : List NodeS} {e : NodeS} {v : Value} (he : e ∈ M) (hv : kv.lookup e.sq = some v) : (keepL kv M).lookup e.sq = some v := by
  induction M with
  | nil => cases he
  | cons x M ih =>
    unfold keepL
    rw [List.map_cons, List.lookup_cons]
    by_cases hx : e.sq = x.sq
    · rw [show (e.sq == x.sq) = true by simp [hx]]
      simp only
      rw [← hx, hv]
      rfl
    · rw [show (e.sq == x.sq) = false by rw [beq_eq_false_iff_ne]; exact hx]
      simp only
      rcases List.mem_cons.1 he with he | he
      · subst he; exact absurd rfl hx
      · exact ih he
section
variable {most : Int} {ad : Addr} {n c : Nat} {L : List NodeS} {cur : Int} {mb hb : Nat} {s : ByteArray} {k : Int} {kv : List (Int × Value)}
set_option maxRecDepth 100000 in
set_option maxHeartbeats 4000000 in
theorem forget_any (w : World) (h : Hq most ad n c L cur mb hb s k kv w) (hnc : n ≤ c) (hn : 1 ≤ n ∧ n ≤ 64) (hs : Srt L) (hkv : ∀ e ∈ L.drop 1, (∃ v, kv.lookup e.sq = some v) ∧ (Lit.int .i64 e.sq).wf = true) :
    Calls Tryd.prog 44 #[.pointer (some ⟨hb, 0, none⟩)] w fun r w' => r = .returned (.tuple #[]) ∧ (w'.heap[hb]? = some (histO most (.slice (some ad) n c) cur w.heap.size s k) ∧ MapI w' w.heap.size (keepL kv (L.drop 1))) ∧ Kept (fun q => q = hb) w w' := by
  have hlt := heap_lt h.box
  have hk0 : Kept (fun _ => False) w (w.alloc (.map #[] 0)) := (Kept.refl _ w).alloc _
  have HH := Lib.hid (h.kept hk0)
  have HM0 := Lib.hid (MapI.new w)
  have HK0 := Lib.hid hk0
  obtain ⟨_, f1, _, _, _, _⟩ := hist_facts h.box
  obtain ⟨_, g1, _, _, _, _⟩ := hist_facts HH.out.box
  have hmm := fun x W => run_mkmap_hint x W
  have hcut := fun W => run_ncut_l W (some ad) n c 1 1 rfl hn.1 hnc
  have HNG := Lib.hid (ng_drop HH.out.ng hnc hn.1)
  have HKV := Lib.hid hkv
  have HSR := Lib.hid hs
  obtain ⟨N, hN⟩ : ∃ N, n - 1 = N := ⟨_, rfl⟩
  have HNN := Lib.hid hN
  have hbN : N ≤ 64 := by omega
  rw [hN] at HNG hcut
  have hmb := h.mp
  obtain ⟨g, hg⟩ : ∃ g, w.heap.size = g := ⟨_, rfl⟩
  have HG := Lib.hid hg
  have hne : ¬ hb = g := by omega
  have hmbg : ¬ mb = g := by obtain ⟨es, cl, h1, _⟩ := hmb; have := heap_lt h1; omega
  have hAb : ∀ a, (if c = 1 then some ad else (some ad).map (·.add (1 * 4))) = some a → ¬ a.block = g := by
    intro a ha
    have hlt2 := ng_lt h.ng (by omega)
    split at ha
    · injection ha with ha; subst ha; omega
    · simp only [Option.map_some, Option.some.injEq] at ha
      rw [← ha, show (ad.add (1 * 4)).block = ad.block by unfold Addr.add; split <;> rfl]
      omega
  have HAB := Lib.hid hAb
  obtain ⟨A1, hA1⟩ : ∃ A1, (if c = 1 then some ad else (some ad).map (·.add (1 * 4))) = A1 := ⟨_, rfl⟩
  rw [hA1] at HNG hcut HAB
  rw [hg] at HM0
  rw [hg]
  obtain ⟨M, hM⟩ : ∃ M, L.drop 1 = M := ⟨_, rfl⟩
  have HMM := Lib.hid hM
  rw [hM] at HNG HKV ⊢
  clear h hk0 hkv hs hg hmb hAb hA1 hN
  go_enter Tryd.func44, Tryd.ntmps44
  go_upto_region 1 with fail
  clear f1 hmm
  simp only [HG.out]
  generalize w.alloc _ = w1 at *
  go_wp2_with fail
  clear hcut g1
  go_loopw [19] (fun v wr => ∃ j : Nat, j ≤ N ∧ v = .int .i64 j ∧ MapI wr g (keepL kv (M.take j)) ∧ Kept (fun q => q = g) w1 wr) (fun v _ => N - (intOf v).toNat)
  case atStart => exact ⟨0, Nat.zero_le _, rfl, HM0.out, Kept.refl _ _⟩
  case round =>
    obtain ⟨j, hjN, rfl, hmp, hkept⟩ := hrel
    have HMP := Lib.hid hmp
    have HK := Lib.hid hkept
    have HB := Lib.hid ((hkept.block hb (heap_lt HH.out.box) hne).trans HH.out.box)
    have HMK := Lib.hid (HH.out.mp.kept hkept hmbg)
    have HNR := Lib.hid (HNG.out.kept hkept HAB.out)
    clear hmp hkept
    by_cases hltj : j < N
    · obtain ⟨bd, e, rfl, he, h4⟩ := HNR.out.at_ hltj
      obtain ⟨⟨v, hv⟩, hwf⟩ := HKV.out e (List.mem_of_getElem? he)
      have hk2 : Kept (fun _ => False) wr (wr.alloc (nodeO e)).drew := ((Kept.refl _ wr).alloc _).drew
      have HN2 : Hid (Nd4 (wr.alloc (nodeO e)).drew ⟨wr.heap.size, 0, none⟩ e) := nd4_new.kept ((Kept.refl (fun _ => False) _).drew) id
      have hget := MapI.get Tryd.underlying64 Tryd.underlying3 (HMK.out.kept hk2 id) hwf hv
      have hnone : (keepL kv (M.take j)).lookup e.sq = none := by
        refine lookup_none (fun p hp => ?_)
        unfold keepL at hp
        obtain ⟨x, hx, rfl⟩ := List.mem_map.1 hp
        obtain ⟨i, hi, rfl⟩ := List.getElem_of_mem hx
        rw [List.length_take] at hi
        rw [List.getElem_take]
        have hi2 : i < M.length := by omega
        have h1 : L[1 + i]? = some M[i] := by rw [← List.getElem?_drop, HMM.out]; exact List.getElem?_eq_getElem hi2
        have h2 : L[1 + j]? = some e := by rw [← List.getElem?_drop, HMM.out]; exact he
        have h3 := HSR.out (1 + i) (1 + j) _ _ h1 h2 (by omega)
        show M[i].sq ≠ e.sq
        omega
      obtain ⟨w6, hrun, hM6, hk6⟩ := MapI.put Tryd.underlying64 Tryd.underlying3 (HMP.out.kept hk2 id) v hwf hnone
      have HM6 : Hid (MapI w6 g (keepL kv (M.take (j + 1)))) := by
        show MapI _ _ _
        rw [List.take_add_one, he]
        unfold keepL at hM6 ⊢
        rw [List.map_append]
        simpa [hv] using hM6
      have HK6 := Lib.hid ((HK.out.trans (hk2.any)).trans hk6)
      have h0 := (hist_facts ((hk2.block _ (heap_lt HB.out) id).trans HB.out)).2.2.2.1
      obtain ⟨n0, n1, n2, n3⟩ := HN2.out.cs
      obtain ⟨c0, c1, c2, c3⟩ := h4
      obtain ⟨e0, e1, e2, e3⟩ := e
      simp only at c0 c1 c2 c3 hget hrun n0 n1 n2 n3
      have b1 : decide (j < N) = true := decide_eq_true hltj
      have b2 : decide ((j : Int) < (N : Int)) = true := decide_eq_true (by omega)
      have t1 : (0 : Int) ≤ (j : Int) := by omega
      have t2 : (j : Int) < (N : Int) := by omega
      clear he hv hwf hnone hM6 hk6 hk2
      go_upto_region 4 with fail
      clear c0 c1 c2 c3
      go_region
      go_wp2_with fail
      go_roundw
      case rel => exact ⟨j + 1, by omega, by go_num, HM6.out, HK6.out⟩
      case measure => simp [intOf] <;> omega
    · obtain rfl : j = N := by omega
      have b1 : decide (j < j) = false := decide_eq_false (by omega)
      have b2 : decide ((j : Int) < (j : Int)) = false := decide_eq_false (by omega)
      have g3 := (hist_facts HB.out).2.2.2.1
      have k3 : wr.frozen? ⟨hb, 3, none⟩ = false := frozen_of HB.out
      go_wp2_with fail
      go_end0
      have hlen : M.length = j := by rw [← HMM.out, List.length_drop, HH.out.ng.len]; exact HNN.out
      refine ⟨rfl, ⟨(heap_set HB.out _).trans rfl, ?_⟩, ?_⟩
      · have h1 := HMP.out
        rw [List.take_of_length_le (by omega)] at h1
        exact h1.kept ((Kept.refl (fun q => q = hb) wr).setCell (p := ⟨hb, 3, none⟩) rfl _) (fun e => hne e.symm)
      · have h1 := HK0.out.fresh HK.out (fun q hq (e : q = g) => by have := HG.out; omega)
        exact (h1.any (S := fun q => q = hb)).setCell (p := ⟨hb, 3, none⟩) rfl _
end
end Go.Proofs.YthbfmdnibijapaaDoor
