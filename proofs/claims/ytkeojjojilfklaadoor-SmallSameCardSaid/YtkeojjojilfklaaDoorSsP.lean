/-
  A PATCH BETWEEN TWO TEXTS, APPLIED; how many rows and runes are left.
-/
import Derived.Test.YtkeojjojilfklaaDoorSmJ3
import Derived.Test.YtkeojjojilfklaaDoorSfP
set_option linter.unusedVariables false
namespace Go.Proofs.YtkeojjojilfklaaDoor
open Go Go.RowKit

theorem Rw.cpl_take : ∀ s t : List Int, s.take (cpl s t) = t.take (cpl s t)
  | [], t => by simp [cpl]
  | a :: s, [] => by simp [cpl]
  | a :: s, b :: t => by
    unfold cpl
    split
    · rename_i h
      subst h
      rw [List.take_succ_cons, List.take_succ_cons, cpl_take s t]
    · rfl
theorem Rw.suf {s t : List Int} (q : Nat) (hs : q ≤ s.length) (ht : q ≤ t.length) (h : s.reverse.take q = t.reverse.take q) : s.drop (s.length - q) = t.drop (t.length - q) := by
  rw [List.take_reverse, List.take_reverse] at h
  have := congrArg List.reverse h
  simpa using this
/-- The patch between two texts, applied to the one, makes the other. -/
theorem Rw.app (s t : List Int) : s.take (bat s t) ++ bins s t ++ s.drop (bat s t + bdel s t) = t := by
  obtain ⟨h1, h2⟩ := bat_le s t
  obtain ⟨h3, h4⟩ := bsf_le s t
  have e1 : s.take (bat s t) = t.take (bat s t) := cpl_take s t
  have e2 : (s.drop (bat s t)).drop ((s.drop (bat s t)).length - bsf s t) = (t.drop (bat s t)).drop ((t.drop (bat s t)).length - bsf s t) :=
    suf _ (by rw [List.length_drop]; exact h3) (by rw [List.length_drop]; exact h4) (cpl_take _ _)
  rw [List.drop_drop, List.length_drop, List.length_drop] at e2
  have e3 : s.drop (bat s t + bdel s t) = (t.drop (bat s t)).drop (t.length - bat s t - bsf s t) := by
    rw [← e2]
    rfl
  rw [e1, e3]
  unfold bins
  rw [List.append_assoc, List.take_append_drop, List.take_append_drop]
theorem Rw.app_le (s t : List Int) : bat s t + bdel s t ≤ s.length := by
  obtain ⟨h1, h2⟩ := bat_le s t
  obtain ⟨h3, h4⟩ := bsf_le s t
  unfold bdel
  omega
/-- How many rows end. -/
def c10 (t : List Int) : Nat := t.count 10
theorem c10_app (a b : List Int) : c10 (a ++ b) = c10 a + c10 b := List.count_append
theorem c10_none {a : List Int} (h : (10 : Int) ∉ a) : c10 a = 0 := List.count_eq_zero.2 h
theorem c10_same : ∀ {s t : List Int}, s.length = t.length → (∀ i : Nat, s[i]? = some 10 ↔ t[i]? = some 10) → c10 s = c10 t
  | [], [], _, _ => rfl
  | [], b :: t, h, _ => by simp at h
  | a :: s, [], h, _ => by simp at h
  | a :: s, b :: t, h, hi => by
    have h0 := hi 0
    simp at h0
    have ih := c10_same (s := s) (t := t) (by simpa using h) (fun i => by have := hi (i + 1); simpa using this)
    unfold c10 at ih ⊢
    rw [List.count_cons, List.count_cons, ih]
    by_cases ha : a = 10
    · rw [ha, h0.1 ha]
    · have hb : ¬ b = 10 := fun e => ha (h0.2 e)
      have e1 : (a == 10) = false := by rw [beq_eq_false_iff_ne]; exact ha
      have e2 : (b == 10) = false := by rw [beq_eq_false_iff_ne]; exact hb
      rw [e1, e2]
theorem bytes_c10 {t : List Int} (hv : Vld t) : (Utf.bytes t).count 10 = c10 t := by
  induction t with
  | nil => rfl
  | cons c t ih =>
    have hv' : Vld t := fun r hr => hv r (by simp [hr])
    show (Utf.enc c ++ Utf.bytes t).count 10 = _
    rw [List.count_append, ih hv']
    unfold c10
    rw [List.count_cons]
    by_cases hc : c = 10
    · subst hc
      rw [show (Utf.enc 10).count 10 = 1 by decide, Nat.add_comm]
      rfl
    · have e : (c == 10) = false := by rw [beq_eq_false_iff_ne]; exact hc
      rw [List.count_eq_zero.2 (fun hm => enc_ten (hv c (by simp)) hc 10 hm rfl), e]
      simp
/-- One rune less, that ends no row. -/
theorem lft_c10 {t : List Int} {k : Nat} {x : Int} (h : t[k]? = some x) (hx : x ≠ 10) : c10 (Rw.lft t k (k + 1)) = c10 t := by
  have e : t = t.take k ++ ([x] ++ t.drop (k + 1)) := by
    have := Rw.drop_cons h
    conv => lhs; rw [← List.take_append_drop k t, this]
    rfl
  unfold Rw.lft
  conv => rhs; rw [e]
  rw [c10_app, c10_app, c10_app, c10_none (a := [x]) (by simp; exact fun e => hx e.symm)]
  omega
/-- The next row joined: one row less. -/
theorem jn_c10 {u : List Int} {k : Nat} {G : Bool} (h : Rw.en u k < u.length) : c10 (Rw.jn u k G) + 1 = c10 u := by
  obtain ⟨h1, h2, h3⟩ := Rw.nx_le u k h
  have h10 := Rw.en_at u k h
  have e : u = u.take (Rw.en u k) ++ ([10] ++ ((u.drop (Rw.en u k + 1)).take (Rw.nx u k - (Rw.en u k + 1)) ++ u.drop (Rw.nx u k))) := by
    have h4 := Rw.drop_cons h10
    have h5 : u.drop (Rw.en u k + 1) = (u.drop (Rw.en u k + 1)).take (Rw.nx u k - (Rw.en u k + 1)) ++ u.drop (Rw.nx u k) := by
      conv => lhs; rw [← List.take_append_drop (Rw.nx u k - (Rw.en u k + 1)) (u.drop (Rw.en u k + 1)), List.drop_drop]
      congr 2
      omega
    rw [← h5]
    conv => lhs; rw [← List.take_append_drop (Rw.en u k) u, h4]
    rfl
  have hno : (10 : Int) ∉ (u.drop (Rw.en u k + 1)).take (Rw.nx u k - (Rw.en u k + 1)) := by
    intro hm
    obtain ⟨i, hi, he⟩ := List.getElem_of_mem hm
    have h6 : ((u.drop (Rw.en u k + 1)).take (Rw.nx u k - (Rw.en u k + 1)))[i]? = some 10 := by rw [List.getElem?_eq_getElem hi, he]
    rw [List.getElem?_take] at h6
    split at h6
    · rw [List.getElem?_drop] at h6
      exact Rw.en_none u (Rw.en u k + 1) _ (by omega) (by omega) h6
    · cases h6
  conv => rhs; rw [e]
  unfold Rw.jn
  rw [c10_app, c10_app, c10_app, c10_app, c10_app, c10_none hno]
  have e10 : c10 [10] = 1 := by decide
  have e32 : c10 (if G then [] else [32]) = 0 := by cases G <;> decide
  omega
theorem rep_c10 {t : List Int} {k : Nat} {r x : Int} (h : t[k]? = some x) (hx : x ≠ 10) (hr : r ≠ 10) : c10 (Rw.rep t k (k + 1) r) = c10 t := by
  have hl : k < t.length := by
    rcases Nat.lt_or_ge k t.length with h' | h'
    · exact h'
    · rw [List.getElem?_eq_none h'] at h; cases h
  refine c10_same (Rw.rep_len (by omega) (by omega)) fun i => ?_
  rw [Rw.rep_at (by omega) (by omega)]
  by_cases hi : k ≤ i ∧ i < k + 1
  · rw [if_pos hi]
    obtain rfl : i = k := by omega
    rw [h]
    constructor
    · intro e; injection e with e; exact absurd e hr
    · intro e; injection e with e; exact absurd e hx
  · rw [if_neg hi]
/-- What the law asks of what comes. -/
def Same (key : Int) (s : ByteArray) (v : Value) : Prop :=
  (∃ E : Int, (E != 0) = true ∧ v = chgT 0 0 ⟨#[]⟩ 0 ⟨#[]⟩ E) ∨
  (∃ (u tk : List Int) (x : Int), Vld u ∧ (0 : Int) ∉ u ∧ u.length ≤ 5000 ∧ Vld tk ∧ tk.length ≤ 5000 ∧ v = chgT (Rw.bat (rs s) u : Nat) (Rw.bdel (rs s) u : Nat) (runesBytes (Rw.bins (rs s) u)) x (runesBytes tk) 0 ∧
    (key = 114 ∨ key = 126 → u.length = (rs s).length ∧ c10 u = c10 (rs s)) ∧ (key = 74 → c10 u + 1 = c10 (rs s)) ∧ (key = 120 ∨ key = 88 → u.length + 1 = (rs s).length ∧ c10 u = c10 (rs s) ∧ tk.length = 1))
theorem made_same {key : Int} {s : ByteArray} {u : List Int} {at' : Int} {v : Value} (h : MadeV s u at' v) (hv : Vld u) (h0 : (0 : Int) ∉ u) (hl : u.length ≤ 5000)
    (h1 : key = 114 ∨ key = 126 → u.length = (rs s).length ∧ c10 u = c10 (rs s)) (h2 : key = 74 → c10 u + 1 = c10 (rs s)) (h3 : ¬ (key = 120 ∨ key = 88)) : Same key s v := by
  by_cases hm : mayB (runesBytes u) = true
  · exact .inr ⟨u, [], at', hv, h0, hl, (fun r hr => by cases hr), (by simp), h.1 hm, h1, h2, fun h => absurd h h3⟩
  · exact .inl ⟨4, rfl, h.2 (by simpa using hm)⟩
theorem mem_at {t : List Int} {i : Nat} {x : Int} (h : t[i]? = some x) : x ∈ t := List.mem_of_getElem? h
theorem same_r {s : ByteArray} {k : Nat} {v : Value} (hm : mayB s = true) (hk : k ≤ (rs s).length) (h : TakeR s k 1 113 v) : Same 114 s v := by
  have hl : (rs s).length ≤ 4000 := by have := rs_len s; have := mayB_size hm; omega
  have hel := Rw.en_le (rs s) k hk
  by_cases he : k + 1 ≤ Rw.en (rs s) k
  · obtain ⟨x, hx⟩ : ∃ x, (rs s)[k]? = some x := ⟨_, List.getElem?_eq_getElem (by omega)⟩
    have h10 : x ≠ 10 := fun e => Rw.en_none (rs s) k k (Nat.le_refl _) (by omega) (by rw [hx, e])
    have hlen := Rw.rep_len (r := 113) (show k ≤ k + 1 by omega) (show k + 1 ≤ (rs s).length by omega)
    refine made_same (h.2 he) (Rw.rep_vld (rs_vld hm) (by decide)) ?_ (by omega) (fun _ => ⟨hlen, rep_c10 hx h10 (by decide)⟩) (fun e => by cases e) (by decide)
    intro h0
    unfold Rw.rep at h0
    rcases List.mem_append.1 h0 with h0 | h0
    · rcases List.mem_append.1 h0 with h0 | h0
      · exact rs_zero hm (List.mem_of_mem_take h0)
      · have := List.eq_of_mem_replicate h0
        cases this
    · exact rs_zero hm (List.mem_of_mem_drop h0)
  · exact .inl ⟨6, rfl, h.1 (by omega)⟩
theorem same_t {s : ByteArray} {k : Nat} {v : Value} (hm : mayB s = true) (hk : k ≤ (rs s).length) (h : TakeT s k (min (k + 1) (Rw.en (rs s) k)) v) : Same 126 s v := by
  have hl : (rs s).length ≤ 4000 := by have := rs_len s; have := mayB_size hm; omega
  have hel := Rw.en_le (rs s) k hk
  have hge := Rw.en_ge (rs s) k
  by_cases he : k = min (k + 1) (Rw.en (rs s) k)
  · exact .inl ⟨6, rfl, h.1 he⟩
  · have hlen := Rw.csd_len (key := 126) (show k ≤ min (k + 1) (Rw.en (rs s) k) by omega) (show min (k + 1) (Rw.en (rs s) k) ≤ (rs s).length by omega)
    refine made_same (h.2 (by omega)) (csd_vld (rs_vld hm)) ?_ (by omega) (fun _ => ⟨hlen, c10_same hlen fun i => Rw.csd_10 (by omega) (by omega) i⟩) (fun e => by cases e) (by decide)
    intro h0
    obtain ⟨c, hc, e | e⟩ := csd_mem h0
    · rw [← e] at hc; exact rs_zero hm hc
    · have hcz : c ≠ 0 := fun e' => rs_zero hm (by rw [← e']; exact hc)
      exact trn_zero hcz e.symm
theorem same_c {key : Int} {s : ByteArray} {k : Nat} {v : Value} (hkey : key = 120 ∨ key = 88) (hm : mayB s = true) (hk : k ≤ (rs s).length) (h : CutV s key (cutS (rs s) key k 1).1 (cutS (rs s) key k 1).2 v) : Same key s v := by
  have hl : (rs s).length ≤ 4000 := by have := rs_len s; have := mayB_size hm; omega
  have hel := Rw.en_le (rs s) k hk
  have hge := Rw.en_ge (rs s) k
  have hbl := Rw.beg_le (rs s) k
  obtain ⟨hle1, hle2⟩ := cutS_le (key := key) (c := 1) hk
  have hcs := cutS_way (t := rs s) (k := k) (c := 1) hkey
  generalize (cutS (rs s) key k 1).1 = L at *
  generalize (cutS (rs s) key k 1).2 = H at *
  by_cases he : L = H
  · exact .inl ⟨6, rfl, h.1 he⟩
  · have hH : H = L + 1 := by rcases hcs with ⟨_, h1, h2⟩ | ⟨_, h1, h2⟩ <;> omega
    subst hH
    obtain ⟨x, hx⟩ : ∃ x, (rs s)[L]? = some x := ⟨_, List.getElem?_eq_getElem (by omega)⟩
    have h10 : x ≠ 10 := fun e => by
      rcases hcs with ⟨_, h1, h2⟩ | ⟨_, h1, h2⟩
      · exact Rw.en_none (rs s) k L (by omega) (by omega) (by rw [hx, e])
      · exact Rw.beg_none (rs s) k L (by omega) (by omega) (by rw [hx, e])
    have hlen := Rw.lft_len (rs s) L (L + 1) (by omega) hle2
    have hsub := Rw.lft_sub (rs s) L (L + 1) (by omega)
    refine .inr ⟨Rw.lft (rs s) L (L + 1), Rw.tkn (rs s) L (L + 1), _, fun r hr => rs_vld hm r (hsub.subset hr), fun h0 => rs_zero hm (hsub.subset h0), by omega, fun r hr => rs_vld hm r (List.mem_of_mem_take (List.mem_of_mem_drop hr)), ?_, h.2 (by omega), fun e => ?_, fun e => ?_, fun _ => ⟨by omega, lft_c10 hx h10, ?_⟩⟩
    · unfold Rw.tkn
      rw [List.length_drop, List.length_take]
      omega
    · rcases hkey with rfl | rfl <;> (rcases e with e | e <;> cases e)
    · rcases hkey with rfl | rfl <;> cases e
    · unfold Rw.tkn
      rw [List.length_drop, List.length_take]
      omega
theorem same_j {s : ByteArray} {k : Nat} {v : Value} (hm : mayB s = true) (hk : k ≤ (rs s).length) (h : TakeJ s k (max (1 - 1) 1) v) : Same 74 s v := by
  have hl : (rs s).length ≤ 4000 := by have := rs_len s; have := mayB_size hm; omega
  have h0 : jst (rs s) k 0 = some (rs s, Rw.en (rs s) k) := rfl
  have hel := Rw.en_le (rs s) k hk
  by_cases he : Rw.en (rs s) k = (rs s).length
  · exact .inl ⟨6, rfl, h.1 (jst_stop h0 he)⟩
  · obtain ⟨G, hG⟩ : ∃ G : Bool, G = true ↔ Rw.glu (rs s) k := by
      by_cases h : Rw.glu (rs s) k
      · exact ⟨true, fun _ => h, fun _ => rfl⟩
      · exact ⟨false, fun h' => Bool.noConfusion h', fun h' => absurd h' h⟩
    have h1 := jst_step h0 (show Rw.en (rs s) k < (rs s).length by omega) hG
    have hI := (JnI.first hm hk).next G (show Rw.en (rs s) k < (rs s).length by omega)
    exact made_same (h.2 _ _ h1) hI.vld hI.zero (by have := hI.len; omega) (fun e => by rcases e with e | e <;> cases e) (fun _ => jn_c10 (by omega)) (by decide)
/-- By each of the keys, what comes is as the law asks. -/
theorem same_of (s : ByteArray) (k : Nat) (key : Int) (w : World) (hT : Tabs w) (hm : mayB s = true) (hk : k ≤ (rs s).length) (hkey : key ∈ [114, 126, 120, 88, 74]) :
    Calls Tryd.prog 28 (smArgs s k key 113 1) w fun e w' => (∃ (a d : Int) (p : ByteArray) (x : Int) (tk : ByteArray) (E : Int), e = .returned (chgT a d p x tk E) ∧ Same key s (chgT a d p x tk E)) ∧ Kept (fun _ => False) w w' := by
  have fin : ∀ {e : Ending} {w' : World}, (∃ v, e = .returned v ∧ Same key s v) ∧ Kept (fun _ => False) w w' → (∃ (a d : Int) (p : ByteArray) (x : Int) (tk : ByteArray) (E : Int), e = .returned (chgT a d p x tk E) ∧ Same key s (chgT a d p x tk E)) ∧ Kept (fun _ => False) w w' := by
    rintro e w' ⟨⟨v, he, hv⟩, hk'⟩
    refine ⟨?_, hk'⟩
    rcases id hv with ⟨E, _, rfl⟩ | ⟨u, tk, x, _, _, _, _, _, rfl, _⟩
    · exact ⟨_, _, _, _, _, _, he, hv⟩
    · exact ⟨_, _, _, _, _, _, he, hv⟩
  simp only [List.mem_cons, List.not_mem_nil, or_false] at hkey
  have e1 : (1 : Int) = ((1 : Nat) : Int) := rfl
  rcases hkey with rfl | rfl | rfl | rfl | rfl
  · exact (sof_r s 113 k 1 w hT hm hk (by omega) (by omega) (by decide)).mono fun e w' ⟨⟨v, he, hv⟩, h⟩ => fin ⟨⟨v, he, same_r hm hk hv⟩, h⟩
  · exact (sof_t s 113 k 1 w hT hm hk (by omega) (by omega)).mono fun e w' ⟨⟨v, he, hv⟩, h⟩ => fin ⟨⟨v, he, same_t hm hk hv⟩, h⟩
  · exact (sof_cut s 120 113 k 1 w hT hm hk (by omega) (by omega) (.inl rfl)).mono fun e w' ⟨⟨v, he, hv⟩, h⟩ => fin ⟨⟨v, he, same_c (.inl rfl) hm hk hv⟩, h⟩
  · exact (sof_cut s 88 113 k 1 w hT hm hk (by omega) (by omega) (.inr rfl)).mono fun e w' ⟨⟨v, he, hv⟩, h⟩ => fin ⟨⟨v, he, same_c (.inr rfl) hm hk hv⟩, h⟩
  · exact (sof_j s 113 k 1 w hT hm hk (by omega) (by omega)).mono fun e w' ⟨⟨v, he, hv⟩, h⟩ => fin ⟨⟨v, he, same_j hm hk hv⟩, h⟩
end Go.Proofs.YtkeojjojilfklaaDoor
