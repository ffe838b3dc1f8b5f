/-
  COMMANDS OF SINGLE RUNES: what may be asked; slices.Clone, Grow, Concat of runes; the program's made and rest.
-/
import Derived.Test.YtkeojjojilfklaaDoorCg
import Derived.Test.YtkeojjojilfklaaDoorOwn
import Derived.Laws.AppendOwn
import Derived.Laws.AppendOwnNone
import Derived.Laws.OwnMore
import Derived.Lib.AppendZeros
import Derived.Test.YtkeojjojilfklaaDoorOc
set_option linter.unusedVariables false
namespace Go.Proofs.YtkeojjojilfklaaDoor
open Go Go.RowKit

/-- May it be typed? -/
def Typ (r : Int) : Prop := 32 ≤ r ∧ r ≤ 1114111 ∧ (r < 55296 ∨ 57343 < r)
instance (r : Int) : Decidable (Typ r) := by unfold Typ; infer_instance
theorem Typ.valid {r : Int} (h : Typ r) : Utf8.valid r = true := by
  obtain ⟨h1, h2, h3⟩ := h
  have : (0 ≤ r ∧ r < 55296) ∨ (57344 ≤ r ∧ r ≤ 1114111) := by omega
  simp [Utf8.valid]
  omega
theorem typ_zones (r : Int) : (r < 32 ∧ ¬ Typ r) ∨ (32 ≤ r ∧ r < 55296 ∧ Typ r) ∨ (55296 ≤ r ∧ r ≤ 57343 ∧ ¬ Typ r) ∨ (57344 ≤ r ∧ r ≤ 1114111 ∧ Typ r) ∨ (1114112 ≤ r ∧ ¬ Typ r) := by
  unfold Typ
  omega
set_option maxRecDepth 100000 in
theorem typed_any (r : Int) (B : Bool) (w : World) (hB : B = true ↔ Typ r) : Calls Tryd.prog 52 #[.int .i64 r] w fun e w' => e = .returned (.bool B) ∧ w' = w := by
  rcases typ_zones r with ⟨z, ht⟩ | ⟨z1, z2, ht⟩ | ⟨z1, z2, ht⟩ | ⟨z1, z2, ht⟩ | ⟨z, ht⟩
  case' inl =>
    have d1 : decide (32 ≤ r) = false := by simp; omega
  case' inr.inl =>
    have d1 : decide (32 ≤ r) = true := by simp; omega
    have d2 : decide (r ≤ 1114111) = true := by simp; omega
    have d3 : decide (r < 55296) = true := by simp; omega
  case' inr.inr.inl =>
    have d1 : decide (32 ≤ r) = true := by simp; omega
    have d2 : decide (r ≤ 1114111) = true := by simp; omega
    have d3 : decide (r < 55296) = false := by simp; omega
    have d4 : decide (57343 < r) = false := by simp; omega
  case' inr.inr.inr.inl =>
    have d1 : decide (32 ≤ r) = true := by simp; omega
    have d2 : decide (r ≤ 1114111) = true := by simp; omega
    have d3 : decide (r < 55296) = false := by simp; omega
    have d4 : decide (57343 < r) = true := by simp; omega
  case' inr.inr.inr.inr =>
    have d1 : decide (32 ≤ r) = true := by simp; omega
    have d2 : decide (r ≤ 1114111) = false := by simp; omega
  case' inl | inr.inr.inl | inr.inr.inr.inr =>
    obtain rfl : B = false := bool_no hB ht
  case' inr.inl | inr.inr.inr.inl =>
    obtain rfl : B = true := bool_of hB ht
  all_goals
    clear hB ht
    go_enter Tryd.func52, Tryd.ntmps52
    go_wp2
    go_ret
    exact ⟨rfl, rfl⟩
set_option maxRecDepth 100000 in
theorem rrune_any (r : Int) (B : Bool) (w : World) (h32 : 32 ≤ r) (hB : B = true ↔ Typ r) : Calls Tryd.prog 75 #[.int .i64 r] w fun e w' => e = .returned (.bool B) ∧ w' = w := by
  have d1 : decide (1 ≤ r) = true := by simp; omega
  rcases typ_zones r with ⟨z, ht⟩ | ⟨z1, z2, ht⟩ | ⟨z1, z2, ht⟩ | ⟨z1, z2, ht⟩ | ⟨z, ht⟩
  case' inl => exfalso; omega
  case' inr.inl =>
    have d2 : decide (r ≤ 1114111) = true := by simp; omega
    have d3 : decide (55296 ≤ r) = false := by simp; omega
  case' inr.inr.inl =>
    have d2 : decide (r ≤ 1114111) = true := by simp; omega
    have d3 : decide (55296 ≤ r) = true := by simp; omega
    have d4 : decide (r ≤ 57343) = true := by simp; omega
  case' inr.inr.inr.inl =>
    have d2 : decide (r ≤ 1114111) = true := by simp; omega
    have d3 : decide (55296 ≤ r) = true := by simp; omega
    have d4 : decide (r ≤ 57343) = false := by simp; omega
  case' inr.inr.inr.inr =>
    have d2 : decide (r ≤ 1114111) = false := by simp; omega
  case' inr.inr.inl | inr.inr.inr.inr =>
    obtain rfl : B = false := bool_no hB ht
  case' inr.inl | inr.inr.inr.inl =>
    obtain rfl : B = true := bool_of hB ht
  all_goals
    clear hB ht h32
    go_enter Tryd.func75, Tryd.ntmps75
    go_wp2
    go_ret
    exact ⟨rfl, rfl⟩

/-- Runes with some of them set over. -/
def Rw.rep (t : List Int) (lo hi : Nat) (r : Int) : List Int := t.take lo ++ List.replicate (hi - lo) r ++ t.drop hi
theorem Rw.rep_len {t : List Int} {lo hi : Nat} {r : Int} (h1 : lo ≤ hi) (h2 : hi ≤ t.length) : (Rw.rep t lo hi r).length = t.length := by
  unfold Rw.rep
  rw [List.length_append, List.length_append, List.length_take, List.length_replicate, List.length_drop]
  omega
theorem Rw.rep_lo {t : List Int} {lo : Nat} {r : Int} : Rw.rep t lo lo r = t := by
  unfold Rw.rep
  rw [Nat.sub_self, List.replicate_zero, List.append_nil, List.take_append_drop]
theorem Rw.rep_at {t : List Int} {lo hi : Nat} {r : Int} (h1 : lo ≤ hi) (h2 : hi ≤ t.length) (i : Nat) : (Rw.rep t lo hi r)[i]? = if lo ≤ i ∧ i < hi then some r else t[i]? := by
  unfold Rw.rep
  by_cases hA : i < lo
  · rw [List.append_assoc, List.getElem?_append_left (by rw [List.length_take]; omega), List.getElem?_take_of_lt hA, if_neg (by omega)]
  · by_cases hB : i < hi
    · rw [List.getElem?_append_left (by rw [List.length_append, List.length_take, List.length_replicate]; omega), List.getElem?_append_right (by rw [List.length_take]; omega), List.length_take, List.getElem?_replicate, if_pos (by omega), if_pos (by omega)]
    · rw [List.getElem?_append_right (by rw [List.length_append, List.length_take, List.length_replicate]; omega), List.length_append, List.length_take, List.length_replicate, List.getElem?_drop, if_neg (by omega)]
      congr 1
      omega
theorem Rw.rep_step {t : List Int} {lo i : Nat} {r : Int} (h1 : lo ≤ i) (h2 : i < t.length) : (Rw.rep t lo i r).set i r = Rw.rep t lo (i + 1) r := by
  apply List.ext_getElem?
  intro j
  rw [Rw.rep_at (by omega) (by omega)]
  by_cases e : i = j
  · subst e
    rw [List.getElem?_set_self (by rw [Rw.rep_len h1 (by omega)]; exact h2), if_pos (by omega)]
  · rw [List.getElem?_set_ne e, Rw.rep_at h1 (by omega)]
    by_cases h : lo ≤ j ∧ j < i
    · rw [if_pos h, if_pos (by omega)]
    · rw [if_neg h, if_neg (by omega)]
theorem Rw.rep_get {t : List Int} {lo i : Nat} {r : Int} (h1 : lo ≤ i) (h2 : i < t.length) : ∃ x, (Rw.rep t lo i r)[i]? = some x :=
  ⟨_, List.getElem?_eq_getElem (by rw [Rw.rep_len h1 (by omega)]; exact h2)⟩
theorem Rw.rep_vld {t : List Int} {lo hi : Nat} {r : Int} (ht : Vld t) (hr : Utf8.valid r = true) : Vld (Rw.rep t lo hi r) := fun x hx => by
  unfold Rw.rep at hx
  rcases List.mem_append.1 hx with hx | hx
  · rcases List.mem_append.1 hx with hx | hx
    · exact ht x (List.mem_of_mem_take hx)
    · rw [List.eq_of_mem_replicate hx]; exact hr
  · exact ht x (List.mem_of_mem_drop hx)
theorem txt_size4 (t : List Int) : (runesBytes t).size ≤ 4 * t.length := by
  rw [txt_size]
  induction t with
  | nil => exact Nat.le_refl _
  | cons c l ih => show (Utf.enc c ++ Utf.bytes l).length ≤ _; have := (Utf.enc_length c).2; rw [List.length_append, List.length_cons]; omega

set_option maxRecDepth 100000 in
theorem between_no (a b : ByteArray) (w : World) (hT : Tabs w) (hma : mayB a = true) (hmb : mayB b = false) (hb : b.size ≤ 140737488351232) :
    Calls Tryd.prog 74 #[.string a, .string b] w fun e w' => e = .returned (.tuple #[patV 0 0 ⟨#[]⟩, .int .i64 1]) ∧ Kept (fun _ => False) w w' := by
  have hka : Kept (fun _ => False) w (w.alloc (patO 0 0 ⟨#[]⟩)) := (Kept.refl _ w).alloc _
  have hTa := hT.kept hka id id
  have hsa := mayB_size hma
  have cA := check_any a (w.alloc (patO 0 0 ⟨#[]⟩)) (by omega) hTa
  have cB := fun W (hW : Tabs W) => check_any b W hb hW
  rw [hma] at cA
  rw [hmb] at cB
  have HKA := Lib.hid hka
  have HTA := Lib.hid hTa
  have HG0 : Hid ((w.alloc (patO 0 0 ⟨#[]⟩)).heap[w.heap.size]? = some (patO 0 0 ⟨#[]⟩)) := heap_alloc_new w _
  obtain ⟨g, hg⟩ : ∃ g, w.heap.size = g := ⟨_, rfl⟩
  have HGS := Lib.hid hg
  clear hT hma hmb hka hTa
  go_enter Tryd.func74, Tryd.ntmps74
  go_wp2_with fail
  simp only [hg] at HG0 ⊢
  clear hg
  generalize w.alloc (patO 0 0 ⟨#[]⟩) = wa at *
  refine cA.mono ?_
  rintro e w1 ⟨rfl, hk1⟩
  have HK1 := Lib.hid (HKA.out.trans hk1)
  have HT1 := Lib.hid (HTA.out.kept hk1 id id)
  have HG1 := Lib.hid ((hk1.block g (heap_lt HG0.out) id).trans HG0.out)
  clear hk1 cA
  go_wp2_with fail
  refine (cB w1 HT1.out).mono ?_
  rintro e w2 ⟨rfl, hk2⟩
  have HK2 := Lib.hid (HK1.out.trans hk2)
  have HG2 := Lib.hid ((hk2.block g (heap_lt HG1.out) id).trans HG1.out)
  clear hk2 cB
  obtain ⟨g0, g1, g2⟩ : w2.cell? ⟨g, 0, none⟩ = some (.int .i64 0) ∧ w2.cell? ⟨g, 1, none⟩ = some (.int .i64 0) ∧ w2.cell? ⟨g, 2, none⟩ = some (.string ⟨#[]⟩) :=
    ⟨by rw [cell_of_row _ _ _ _ _ _ HG2.out]; rfl, by rw [cell_of_row _ _ _ _ _ _ HG2.out]; rfl, by rw [cell_of_row _ _ _ _ _ _ HG2.out]; rfl⟩
  have k0 : w2.frozen? ⟨g, 0, none⟩ = false := frozen_of HG2.out
  have k1 : w2.frozen? ⟨g, 1, none⟩ = false := frozen_of HG2.out
  have k2 : w2.frozen? ⟨g, 2, none⟩ = false := frozen_of HG2.out
  go_wp2
  refine bodyPost_ret (res_pat rfl _ _ g 0 0 ⟨#[]⟩ (0, 0) rfl ((heap_set (heap_set (heap_set HG2.out _) _) _).trans rfl)) rfl ⟨rfl, ?_⟩
  exact HK2.out.fresh ((((Kept.refl (fun b => b = g) w2).setCell (p := ⟨g, 0, none⟩) rfl _).setCell (p := ⟨g, 1, none⟩) rfl _).setCell (p := ⟨g, 2, none⟩) rfl _) (fun b hb e => by have := HGS.out; omega)
/-- The keys of the chapter. -/
def smKeys : List Int := [120, 88, 114, 126, 74]
theorem zin_t (A : Option Addr) (n c : Nat) (xs : List Int) (x : Int) (w : World) (hA : Nums w A n xs) (hn : n ≤ 100000) (h : x ∈ xs) :
    Calls Tryd.prog 58 #[.slice A n c, .int .i64 x] w fun e w' => (∃ r : Int, e = .returned (.int .i64 r) ∧ decide (r < 0) = false) ∧ w' = w :=
  (zin_any A n c xs x w hA hn).mono fun e w' ⟨⟨r, he, h1, h2, h3⟩, hw⟩ => ⟨⟨r, he, by have := h3.2 h; simp; omega⟩, hw⟩
theorem zin_f (A : Option Addr) (n c : Nat) (xs : List Int) (x : Int) (w : World) (hA : Nums w A n xs) (hn : n ≤ 100000) (h : x ∉ xs) :
    Calls Tryd.prog 58 #[.slice A n c, .int .i64 x] w fun e w' => (∃ r : Int, e = .returned (.int .i64 r) ∧ decide (r < 0) = true) ∧ w' = w :=
  (zin_any A n c xs x w hA hn).mono fun e w' ⟨⟨r, he, h1, h2, h3⟩, hw⟩ => ⟨⟨r, he, by have h4 : ¬ 0 ≤ r := fun q => h (h3.1 q); simp; omega⟩, hw⟩
/-- May it be asked, of so many runes? -/
def SmOk (n : Nat) (k key r c : Int) : Prop := (0 ≤ k ∧ k ≤ (n : Int)) ∧ key ∈ smKeys ∧ (1 ≤ c ∧ c ≤ 999) ∧ (key = 114 → Typ r)
set_option maxRecDepth 100000 in
theorem rmays_any (A : Option Addr) (n c : Nat) (k key r cn : Int) (B : Bool) (w : World) (hB : B = true ↔ SmOk n k key r cn) :
    Calls Tryd.prog 50 #[.slice A n c, .int .i64 k, .int .i64 key, .int .i64 r, .int .i64 cn] w fun e w' => e = .returned (.bool B) ∧ Kept (fun _ => False) w w' := by
  have hk : Kept (fun _ => False) w (w.alloc (.cells (smKeys.map (Value.int .i64)).toArray 3)) := (Kept.refl _ w).alloc _
  have HK := Lib.hid hk
  have hN := nums_new w smKeys 3
  unfold SmOk at hB
  by_cases h1 : 0 ≤ k ∧ k ≤ (n : Int)
  · have c1 := znum_t h1
    by_cases h2 : key ∈ smKeys
    · have cI := zin_t _ _ 5 smKeys key _ hN (by decide) h2
      by_cases h3 : 1 ≤ cn ∧ cn ≤ 999
      · have c3 := zbetween_any cn 1 999
        rw [decide_eq_true h3] at c3
        by_cases h4 : key = 114
        · subst h4
          by_cases h5 : 32 ≤ r
          · have d5 : decide (32 ≤ r) = true := by simp; omega
            have c5 := fun w => rrune_any r B w h5 ⟨fun h => (hB.1 h).2.2.2 rfl, fun h => hB.2 ⟨h1, h2, h3, fun _ => h⟩⟩
            clear hB hk h1 h2 h3 hN
            simp only [smKeys, List.map, List.length] at cI HK
            go_enter Tryd.func50, Tryd.ntmps50
            go_wp2_with (first | (go_at_call 35; refine (c1 _).mono ?_; rintro e w' ⟨rfl, hw⟩; have hw2 := hw.symm; subst hw2; clear c1) | (go_at_call 58; refine cI.mono ?_; rintro e w' ⟨⟨q, rfl, hq⟩, hw⟩; have hw2 := hw.symm; subst hw2; clear cI) | (go_at_call 39; refine (c3 _).mono ?_; rintro e w' ⟨rfl, hw⟩; have hw2 := hw.symm; subst hw2; clear c3) | (go_at_call 75; refine (c5 _).mono ?_; rintro e w' ⟨rfl, hw⟩; have hw2 := hw.symm; subst hw2; clear c5))
            go_ret
            exact ⟨rfl, HK.out⟩
          · have d5 : decide (32 ≤ r) = false := by simp; omega
            obtain rfl : B = false := bool_no hB fun h => h5 (h.2.2.2 rfl).1
            clear hB hk h1 h2 h3 hN
            simp only [smKeys, List.map, List.length] at cI HK
            go_enter Tryd.func50, Tryd.ntmps50
            go_wp2_with (first | (go_at_call 35; refine (c1 _).mono ?_; rintro e w' ⟨rfl, hw⟩; have hw2 := hw.symm; subst hw2; clear c1) | (go_at_call 58; refine cI.mono ?_; rintro e w' ⟨⟨q, rfl, hq⟩, hw⟩; have hw2 := hw.symm; subst hw2; clear cI) | (go_at_call 39; refine (c3 _).mono ?_; rintro e w' ⟨rfl, hw⟩; have hw2 := hw.symm; subst hw2; clear c3))
            go_ret
            exact ⟨rfl, HK.out⟩
        · have q4 : (key != 114) = true := by rw [bne_iff_ne]; exact h4
          have q5 : (key == 114) = false := by rw [beq_eq_false_iff_ne]; exact h4
          obtain rfl : B = true := bool_of hB ⟨h1, h2, h3, fun h => absurd h h4⟩
          clear hB hk h1 h2 h3 hN h4
          simp only [smKeys, List.map, List.length] at cI HK
          go_enter Tryd.func50, Tryd.ntmps50
          go_wp2_with (first | (go_at_call 35; refine (c1 _).mono ?_; rintro e w' ⟨rfl, hw⟩; have hw2 := hw.symm; subst hw2; clear c1) | (go_at_call 58; refine cI.mono ?_; rintro e w' ⟨⟨q, rfl, hq⟩, hw⟩; have hw2 := hw.symm; subst hw2; clear cI) | (go_at_call 39; refine (c3 _).mono ?_; rintro e w' ⟨rfl, hw⟩; have hw2 := hw.symm; subst hw2; clear c3))
          go_ret
          exact ⟨rfl, HK.out⟩
      · have c3 := zbetween_any cn 1 999
        rw [decide_eq_false h3] at c3
        obtain rfl : B = false := bool_no hB fun h => h3 h.2.2.1
        clear hB hk h1 h2 h3 hN
        simp only [smKeys, List.map, List.length] at cI HK
        go_enter Tryd.func50, Tryd.ntmps50
        go_wp2_with (first | (go_at_call 35; refine (c1 _).mono ?_; rintro e w' ⟨rfl, hw⟩; have hw2 := hw.symm; subst hw2; clear c1) | (go_at_call 58; refine cI.mono ?_; rintro e w' ⟨⟨q, rfl, hq⟩, hw⟩; have hw2 := hw.symm; subst hw2; clear cI) | (go_at_call 39; refine (c3 _).mono ?_; rintro e w' ⟨rfl, hw⟩; have hw2 := hw.symm; subst hw2; clear c3))
        go_ret
        exact ⟨rfl, HK.out⟩
    · have cI := zin_f _ _ 5 smKeys key _ hN (by decide) h2
      obtain rfl : B = false := bool_no hB fun h => h2 h.2.1
      clear hB hk h1 h2 hN
      simp only [smKeys, List.map, List.length] at cI HK
      go_enter Tryd.func50, Tryd.ntmps50
      go_wp2_with (first | (go_at_call 35; refine (c1 _).mono ?_; rintro e w' ⟨rfl, hw⟩; have hw2 := hw.symm; subst hw2; clear c1) | (go_at_call 58; refine cI.mono ?_; rintro e w' ⟨⟨q, rfl, hq⟩, hw⟩; have hw2 := hw.symm; subst hw2; clear cI))
      go_ret
      exact ⟨rfl, HK.out⟩
  · have c1 := znum_f h1
    obtain rfl : B = false := bool_no hB fun h => h1 h.1
    clear hB hk h1 hN HK
    go_enter Tryd.func50, Tryd.ntmps50
    go_wp2_with (first | (go_at_call 35; refine (c1 _).mono ?_; rintro e w' ⟨rfl, hw⟩; have hw2 := hw.symm; subst hw2; clear c1))
    go_ret
    exact ⟨rfl, Kept.refl _ _⟩

/-- May it be asked of a text? -/
def GoodS (s : ByteArray) (k key r c : Int) : Prop := mayB s = true ∧ SmOk (rs s).length k key r c
/-- What the reference tells where it may be: the same, or an error, and then the program tells that error and nothing else. -/
def RefS (s : ByteArray) (k key r c : Int) (a d : Int) (p : ByteArray) (x : Int) (tk : ByteArray) (l : Bool) (E : Int) : Prop :=
  ∀ w, Tabs w → Calls Tryd.prog 51 #[.string s, .int .i64 k, .int .i64 key, .int .i64 r, .int .i64 c] w fun e w' =>
    (∃ (B ra rd : Int) (rp : ByteArray) (rx : Int) (rt : ByteArray) (rl : Bool), e = .returned (.tuple #[chgV ra rd rp rx rt rl, .int .i64 B]) ∧ E = B ∧
      ((B = 0 ∧ ra = a ∧ rd = d ∧ rp = p ∧ rx = x ∧ rt = tk ∧ rl = l) ∨ ((B != 0) = true ∧ a = 0 ∧ d = 0 ∧ p = ⟨#[]⟩ ∧ x = 0 ∧ tk = ⟨#[]⟩ ∧ l = false))) ∧ Kept (fun _ => False) w w'
def ToldS (s : ByteArray) (k key r c : Int) (a d : Int) (p : ByteArray) (x : Int) (tk : ByteArray) (l : Bool) (E : Int) : Prop :=
  (GoodS s k key r c → RefS s k key r c a d p x tk l E) ∧ (¬ GoodS s k key r c → a = 0 ∧ d = 0 ∧ p = ⟨#[]⟩ ∧ x = 0 ∧ tk = ⟨#[]⟩ ∧ l = false ∧ E = 1)
/-- A key by which the program tells what the reference does. -/
def KeyS (key : Int) : Prop := ∀ (s : ByteArray) (k r c : Int) (w : World), s.size ≤ 140737488351232 → Tabs w →
  Calls Tryd.prog 28 #[.string s, .int .i64 k, .int .i64 key, .int .i64 r, .int .i64 c] w fun e w' => (∃ (a d : Int) (p : ByteArray) (x : Int) (tk : ByteArray) (l : Bool) (E : Int), e = .returned (.tuple #[chgV a d p x tk l, .int .i64 E]) ∧ ToldS s k key r c a d p x tk l E) ∧ Kept (fun _ => False) w w'
/-- What is told where nothing comes of it. -/
def NoneC (f : FuncId) (args : Array Value) (E : Int) : Prop := ∀ w, Tabs w → Calls Tryd.prog f args w fun e w' => e = .returned (.tuple #[chgV 0 0 ⟨#[]⟩ 0 ⟨#[]⟩ false, .int .i64 E]) ∧ Kept (fun _ => False) w w'
/-- What is told where a change comes of it. -/
def SomeC (f : FuncId) (args : Array Value) (a d : Int) (p : ByteArray) (x : Int) (tk : ByteArray) : Prop := ∀ w, Tabs w → Calls Tryd.prog f args w fun e w' => e = .returned (.tuple #[chgV a d p x tk false, .int .i64 0]) ∧ Kept (fun _ => False) w w'
abbrev smArgs (s : ByteArray) (k key r c : Int) : Array Value := #[.string s, .int .i64 k, .int .i64 key, .int .i64 r, .int .i64 c]
/-- Where both tell the same change, or the same error. -/
theorem keyS_of {key : Int}
    (hno : ∀ (s : ByteArray) (k r c : Int) (w : World), s.size ≤ 140737488351232 → Tabs w → ¬ GoodS s k key r c → Calls Tryd.prog 28 (smArgs s k key r c) w fun e w' => e = .returned (.tuple #[chgV 0 0 ⟨#[]⟩ 0 ⟨#[]⟩ false, .int .i64 1]) ∧ Kept (fun _ => False) w w')
    (hyes : ∀ (s : ByteArray) (k c : Nat) (r : Int), mayB s = true → k ≤ (rs s).length → 1 ≤ c → c ≤ 999 → key ∈ smKeys → (key = 114 → Typ r) →
      (∃ E : Int, (E != 0) = true ∧ NoneC 28 (smArgs s k key r c) E ∧ ∃ (a d : Int) (p : ByteArray) (x : Int) (tk : ByteArray), ∀ w, Tabs w → Calls Tryd.prog 51 (smArgs s k key r c) w fun e w' => e = .returned (.tuple #[chgV a d p x tk false, .int .i64 E]) ∧ Kept (fun _ => False) w w') ∨
      (∃ (a d : Int) (p : ByteArray) (x : Int) (tk : ByteArray), SomeC 28 (smArgs s k key r c) a d p x tk ∧ SomeC 51 (smArgs s k key r c) a d p x tk)) : KeyS key := by
  intro s k r c w hs hT
  by_cases hg : GoodS s k key r c
  · obtain ⟨hm, ⟨hk0, hk1⟩, hkey, ⟨hc0, hc1⟩, hr⟩ := id hg
    obtain ⟨kk, rfl⟩ := Int.eq_ofNat_of_zero_le hk0
    obtain ⟨cc, rfl⟩ := Int.eq_ofNat_of_zero_le (show 0 ≤ c by omega)
    rcases hyes s kk cc r hm (by omega) (by omega) (by omega) hkey hr with ⟨E, hE, h1, a, d, p, x, tk, h2⟩ | ⟨a, d, p, x, tk, h1, h2⟩
    · refine (h1 w hT).mono fun e w' he => ⟨⟨0, 0, ⟨#[]⟩, 0, ⟨#[]⟩, false, E, he.1, fun _ w2 hT2 => (h2 w2 hT2).mono fun e2 w3 he2 => ⟨⟨E, a, d, p, x, tk, false, he2.1, rfl, .inr ⟨hE, rfl, rfl, rfl, rfl, rfl, rfl⟩⟩, he2.2⟩, fun hn => absurd hg hn⟩, he.2⟩
    · refine (h1 w hT).mono fun e w' he => ⟨⟨a, d, p, x, tk, false, 0, he.1, fun _ w2 hT2 => (h2 w2 hT2).mono fun e2 w3 he2 => ⟨⟨0, a, d, p, x, tk, false, he2.1, rfl, .inl ⟨rfl, rfl, rfl, rfl, rfl, rfl, rfl⟩⟩, he2.2⟩, fun hn => absurd hg hn⟩, he.2⟩
  · exact (hno s k r c w hs hT hg).mono fun e w' he => ⟨⟨0, 0, ⟨#[]⟩, 0, ⟨#[]⟩, false, 1, he.1, fun h => absurd h hg, fun _ => ⟨rfl, rfl, rfl, rfl, rfl, rfl, rfl⟩⟩, he.2⟩
set_option maxRecDepth 100000 in
theorem eql_nil (w : World) (a : Addr) (n c : Nat) : (binOp .eql 31 (.slice (some a) n c) (.slice none 0 0)).run Tryd.prog w = .ok (.bool false) w := by
  have h : ∀ d : Nat, (Op.equalIn (d + 1) 31 (.slice (some a) n c) (.slice none 0 0)).run Tryd.prog w = .ok false w := fun d => by
    simp [Op.equalIn, run_underlying Tryd.underlying31]
  simp only [binOp]
  simp [Op.equal, Op.maxDepth, h 9999]
theorem cutB_none (c lo : Nat) : cutB none c lo = none := by unfold cutB; split <;> rfl
theorem cutB_zero' (A : Option Addr) (c : Nat) : cutB A c 0 = A := by
  unfold cutB
  split
  · rfl
  · cases A with
    | none => rfl
    | some a => simp [Addr.add]
theorem zc_size (n : Nat) : (Builtin.zeroCells (Value.int .i32 0).cells n).size = n * 1 := by simp [Builtin.zeroCells, Value.cells]
/-- What is owned reads as runes. -/
theorem owned_runes {w : World} {base : Nat} {v : Value} {n : Nat} {t : List Int} (h : w.ownsRow base 21 1 v n (t.map (Value.int .i32))) :
    (v = .slice none 0 0 ∧ n = 0 ∧ t = []) ∨ ∃ g cap, v = .slice (some ⟨g, 0, none⟩) n cap ∧ base ≤ g ∧ n ≤ cap ∧ OwnR w g n t := by
  have hcells : ∀ g, v.ownBlock = some g → ∀ j u, (t.map (Value.int .i32))[j]? = some u → w.cell? ((⟨g, 0, none⟩ : Addr).add j) = some u := fun g hg => h.cells hg
  have hlen : t.length = n := by have := h.1; rw [List.length_map, Nat.mul_one] at this; exact this
  rcases h.2 with ⟨rfl, rfl⟩ | ⟨g, cap, cur, rfl, hb, hh, hcap, _, _, _⟩
  · exact .inl ⟨rfl, rfl, List.eq_nil_of_length_eq_zero hlen⟩
  · exact .inr ⟨g, cap, rfl, hb, hcap, ⟨hlen, fun j x hj => ⟨_, rfl, hcells g rfl j (.int .i32 x) (by rw [List.getElem?_map, hj]; rfl)⟩⟩, _, _, hh⟩
theorem one_runes (t : List Int) : ∀ u ∈ t.map (Value.int .i32), u.oneCell' = true := fun u hu => by
  obtain ⟨x, _, rfl⟩ := List.mem_map.1 hu
  rfl
theorem rn_news {w : World} {ad : Addr} {n : Nat} {t : List Int} (h : Rn w (some ad) n t) : ∀ j u, (t.map (Value.int .i32))[j]? = some u → w.cell? (ad.add j) = some u := fun j u hj => by
  rw [List.getElem?_map] at hj
  cases hx : t[j]? with
  | none => rw [hx] at hj; cases hj
  | some x =>
    rw [hx] at hj
    injection hj with hj
    obtain ⟨a, e, hc⟩ := h.2 j x hx
    injection e with e
    subst e
    rw [← hj]
    exact hc
set_option maxRecDepth 100000 in
theorem clone_any (ad : Addr) (n c : Nat) (t : List Int) (w : World) (hA : Rn w (some ad) n t) (hn : n ≤ 100000) :
    Calls Tryd.prog 80 #[.slice (some ad) n c] w fun e w' => Kept (fun _ => False) w w' ∧ ∃ g cap, e = .returned (.slice (some ⟨g, 0, none⟩) n cap) ∧ w.heap.size ≤ g ∧ n ≤ cap ∧ OwnR w' g n t := by
  obtain ⟨i0, hi, hz0, hz1, hz2⟩ := info_parts infoRune
  have hown : (w.alloc (.cells #[] 21)).ownsRow w.heap.size 21 1 (.slice (some ⟨w.heap.size, 0, none⟩) 0 0) 0 ([] : List Value) :=
    World.ownsRow_lit (base := w.heap.size) (e := 21) (size := 1) w #[] 0 (Nat.le_refl _) (by decide) rfl
  have hk : Kept (fun _ => False) w (w.alloc (.cells #[] 21)) := (Kept.refl _ w).alloc _
  have hz : w.heap.size ≤ (w.alloc (.cells #[] 21)).heap.size := hk.size
  have hA' := hA.kept hk (fun _ _ => id)
  have hl := hA.1
  have HK := Lib.hid hk
  have q0 : ∀ u, (binOp .eql 31 (.slice (some ad) n c) (.slice none 0 0)).run Tryd.prog u = .ok (.bool false) u := fun u => eql_nil u _ _ _
  clear hA hk
  go_enter Tryd.func80, Tryd.ntmps80
  go_wp2_with (at_builtin; refine wpList_append_own _ rfl _ _ 31 rfl w.heap.size 21 i0 (.int .i32 0) 1 4 Tryd.underlying31 hi hz0 hz1 hz2 rfl (by decide) _ _ _ rfl hown ad n c (t.map (Value.int .i32)) rfl (by rw [List.length_map, Nat.mul_one]; exact hl) (rn_news hA') (one_runes t) (by unfold maxLen; omega) (by omega) hz ?_)
  intro v' w1 hown' hgrow hnil
  have hK1 := Lib.hid (Kept.grew HK.out hgrow (fun q hq => (hown.lt q hq).1))
  rcases owned_runes hown' with ⟨rfl, _, _⟩ | ⟨g, cap, rfl, h1, h2, h3⟩
  · exact absurd rfl hnil
  · have H3 := Lib.hid h3
    have H2 := Lib.hid h2
    have H1 := Lib.hid h1
    clear hown' hgrow hnil h3 h1 h2 hown hA' hz
    go_wp2
    go_ret
    exact ⟨hK1.out, g, cap, rfl, H1.out, H2.out, H3.out⟩
set_option maxRecDepth 100000 in
theorem grow_any (n : Nat) (w : World) (hn : n ≤ 100000) :
    Calls Tryd.prog 93 #[.slice none 0 0, .int .i64 n] w fun e w' => Kept (fun _ => False) w w' ∧ ∃ v, e = .returned v ∧ w'.ownsRow w.heap.size 21 1 v 0 [] := by
  obtain ⟨i0, hi, hz0, hz1, hz2⟩ := info_parts infoRune
  have w1 : IntKind.i64.wrap ((0 : Int) - 0) = 0 := by decide
  have w2 : IntKind.i64.wrap ((n : Int) - 0) = n := by rw [Int.sub_zero]; exact IntWalk.i64_in _ ⟨by omega, by omega⟩
  have cut1 : ∀ u, (Instr.slice 31 (.slice none 0 0) none (some (.int .i64 0)) none).run Tryd.prog u = .ok (.slice none 0 0) u := fun u => by
    rw [run_cut_h u none 0 0 0 0 rfl (Nat.le_refl _), cutB_none]
  by_cases h0 : n = 0
  · subst h0
    go_enter Tryd.func93, Tryd.ntmps93
    go_wp2
    go_ret
    exact ⟨Kept.refl _ _, _, rfl, World.ownsRow_nil _ _ _ _⟩
  · have hrun := Lib.run_append_nil_zeros (P := Tryd.prog) w 31 3 31 21 i0 (.int .i32 0) .i64 .i64 Tryd.underlying31 Tryd.underlying3 hi hz0 n (by omega) (by rw [hz1]; decide) (by omega) (by rw [hz2]; omega)
    have hge := grownCap_ge w n 0 21
    have hle := grownCap_le_maxLen w n 0 21 (by unfold maxLen; omega)
    have hown := World.ownsRow_made (base := w.heap.size) (e := 21) (size := 1) w.drew (Builtin.zeroCells (Value.int .i32 0).cells n ++ Builtin.zeroCells (Value.int .i32 0).cells (grownCap w n 0 21 - n)) (grownCap w n 0 21) (Nat.le_refl _) hle (by rw [Array.size_append, zc_size, zc_size]; omega)
    have hk : Kept (fun _ => False) w (w.drew.alloc (.cells (Builtin.zeroCells (Value.int .i32 0).cells n ++ Builtin.zeroCells (Value.int .i32 0).cells (grownCap w n 0 21 - n)) 21)) := (Kept.refl _ w).drew.alloc _
    have b1 : decide ((0 : Int) < (n : Int)) = true := by simp; omega
    have b2 : decide (0 < n) = true := by simp; omega
    have hns : ¬ ((n : Int) < 0) := by omega
    generalize w.drew.alloc (.cells (Builtin.zeroCells (Value.int .i32 0).cells n ++ Builtin.zeroCells (Value.int .i32 0).cells (grownCap w n 0 21 - n)) 21) = W1 at *
    generalize grownCap w n 0 21 = C at *
    have cut2 : ∀ u, (Instr.slice 31 (.slice (some ⟨w.heap.size, 0, none⟩) n C) none (some (.int .i64 0)) none).run Tryd.prog u = .ok (.slice (some ⟨w.heap.size, 0, none⟩) 0 C) u := fun u => by
      rw [run_cut_h u _ n C 0 0 rfl (Nat.zero_le _), cutB_zero']
    have HOWN := Lib.hid hown
    have HK := Lib.hid hk
    clear hown hk hge hle
    go_enter Tryd.func93, Tryd.ntmps93
    go_wp2_with (at_builtin; refine Lib.wpList_append_run _ rfl _ _ _ _ rfl _ _ rfl rfl _ _ hrun ?_)
    go_ret
    exact ⟨HK.out, _, rfl, HOWN.out⟩
/-- Pieces of runes, side by side in a block. -/
def Parts (w : World) (pb : Nat) (ps : List (Addr × Nat × Nat × List Int)) : Prop := ∀ (j : Nat) p, ps[j]? = some p → w.cell? ⟨pb, j, none⟩ = some (.slice (some p.1) p.2.1 p.2.2.1) ∧ Rn w (some p.1) p.2.1 p.2.2.2
def flat (ps : List (Addr × Nat × Nat × List Int)) : List Int := ps.flatMap (·.2.2.2)
theorem flat_take {ps : List (Addr × Nat × Nat × List Int)} {j : Nat} {p : Addr × Nat × Nat × List Int} (h : ps[j]? = some p) : flat (ps.take (j + 1)) = flat (ps.take j) ++ p.2.2.2 := by
  unfold flat
  rw [List.take_add_one, h, List.flatMap_append]
  simp
theorem flat_sub (ps : List (Addr × Nat × Nat × List Int)) (j : Nat) : (flat (ps.take j)).length ≤ (flat ps).length := by
  have : ps = ps.take j ++ ps.drop j := (List.take_append_drop j ps).symm
  conv => rhs; rw [this]
  unfold flat
  rw [List.flatMap_append, List.length_append]
  omega
theorem Parts.kept {w w' : World} {pb : Nat} {ps : List (Addr × Nat × Nat × List Int)} (h : Parts w pb ps) (hk : Kept (fun _ => False) w w') : Parts w' pb ps := fun j p hj => by
  obtain ⟨h1, h2⟩ := h j p hj
  exact ⟨cell_kept hk h1 id, h2.kept hk (fun _ _ => id)⟩
set_option maxRecDepth 100000 in
set_option maxHeartbeats 1000000 in
theorem concat_any (pb k : Nat) (ps : List (Addr × Nat × Nat × List Int)) (w : World) (hp : Parts w pb ps) (hk : ps.length = k) (hk1 : k ≤ 10) (hn : (flat ps).length ≤ 100000) :
    Calls Tryd.prog 77 #[.slice (some ⟨pb, 0, none⟩) k k] w fun e w' => Kept (fun _ => False) w w' ∧ ∃ A cap, e = .returned (.slice A (flat ps).length cap) ∧ (flat ps).length ≤ cap ∧ Rn w' A (flat ps).length (flat ps) := by
  obtain ⟨i0, hi, hz0, hz1, hz2⟩ := info_parts infoRune
  have HP := Lib.hid hp
  have HK := Lib.hid hk
  have HN := Lib.hid hn
  have cG := grow_any (flat ps).length w hn
  clear hp hk hn
  go_enter Tryd.func77, Tryd.ntmps77
  go_wp2
  go_loop [3, 11] (fun z v => ∃ j : Nat, j ≤ k ∧ v = .int .i64 j ∧ z = .int .i64 (flat (ps.take j)).length) (fun _ v => k - (intOf v).toNat)
  case atStart => exact ⟨0, Nat.zero_le _, rfl, rfl⟩
  case round =>
    obtain ⟨j, hj, rfl, rfl⟩ := hrel
    by_cases hlt : j < k
    · obtain ⟨⟨ad, n, c, t⟩, hp⟩ : ∃ p, ps[j]? = some p := ⟨_, List.getElem?_eq_getElem (by have := HK.out; omega)⟩
      obtain ⟨hc, hR⟩ := HP.out j _ hp
      simp only at hc hR
      have HF : Hid ((flat (ps.take (j + 1))).length = (flat (ps.take j)).length + n) := by show _ = _; rw [flat_take hp, List.length_append, hR.1]
      have HB : Hid ((flat (ps.take (j + 1))).length ≤ 100000) := Nat.le_trans (flat_sub _ _) HN.out
      clear hp hR
      generalize hz : (flat (ps.take j)).length = z at *
      have hw1 : IntKind.i64.wrap ((z : Int) + (n : Int)) = (z : Int) + (n : Int) := IntWalk.i64_in _ ⟨by have := HF.out; have := HB.out; omega, by have := HF.out; have := HB.out; omega⟩
      have b1 : decide ((z : Int) + (n : Int) < 0) = false := by simp; omega
      have b2 : decide (z + n < 0) = false := by simp
      have b4 : decide (j < k) = true := by simp; omega
      clear hz
      go_wp2
      go_round
      case rel => exact ⟨j + 1, by omega, by go_num, by rw [HF.out]; go_num⟩
      case measure => simp [intOf]; omega
    · obtain rfl : j = k := by omega
      have hfl : flat (ps.take j) = flat ps := by rw [List.take_of_length_le (by have := HK.out; omega)]
      rw [hfl]
      have HFL : Hid (flat (ps.take j) = flat ps) := hfl
      clear hlt hfl
      go_wp2_with (go_at_call 93; refine cG.mono ?_; rintro e w1 ⟨hk1, v, rfl, hown⟩; have HK1 := Lib.hid hk1; have HO1 := Lib.hid hown; clear hk1 hown cG)
      go_loopw [6, 27] (fun z v wr => ∃ i : Nat, i ≤ j ∧ v = .int .i64 i ∧ wr.ownsRow w.heap.size 21 1 z (flat (ps.take i)).length ((flat (ps.take i)).map (Value.int .i32)) ∧ Kept (fun _ => False) w wr) (fun _ v _ => j - (intOf v).toNat)
      case atStart => exact ⟨0, Nat.zero_le _, rfl, HO1.out, HK1.out⟩
      case round =>
        obtain ⟨i, hi', rfl, hown, hkw⟩ := hrel
        have HKW := Lib.hid hkw
        have HOW := Lib.hid hown
        by_cases hlt : i < j
        · obtain ⟨⟨ad, n, c, t⟩, hp⟩ : ∃ p, ps[i]? = some p := ⟨_, List.getElem?_eq_getElem (by have := HK.out; omega)⟩
          obtain ⟨hc, hR⟩ := (HP.out.kept hkw) i _ hp
          simp only at hc hR
          have HF : Hid (flat (ps.take (i + 1)) = flat (ps.take i) ++ t) := flat_take hp
          have HB : Hid ((flat (ps.take (i + 1))).length ≤ 100000) := Nat.le_trans (flat_sub _ _) HN.out
          have HR := Lib.hid hR
          have b4 : decide (i < j) = true := by simp; omega
          have hw0 : w.heap.size ≤ wr.heap.size := hkw.size
          have HW0 := Lib.hid hw0
          clear hp hR hkw hown hw0
          go_wp2_with (at_builtin; refine wpList_append_own _ rfl _ _ 31 rfl w.heap.size 21 i0 (.int .i32 0) 1 4 Tryd.underlying31 hi hz0 hz1 hz2 rfl (by decide) _ _ _ rfl HOW.out ad n c (t.map (Value.int .i32)) rfl (by rw [List.length_map, Nat.mul_one]; exact HR.out.1) (rn_news HR.out) (one_runes t) ?c1 ?c2 HW0.out ?_)
          case c1 => have h1 := HB.out; have h3 := HR.out.1; rw [HF.out, List.length_append] at h1; unfold maxLen; omega
          case c2 => have h1 := HB.out; have h3 := HR.out.1; rw [HF.out, List.length_append] at h1; omega
          intro v' w2 hown' hgrow _
          have hK2 := Lib.hid (Kept.grew HKW.out hgrow (fun q hq => (HOW.out.lt q hq).1))
          rw [← List.map_append, ← HF.out] at hown'
          have HL : Hid ((flat (ps.take i)).length + n = (flat (ps.take (i + 1))).length) := by show _ = _; rw [HF.out, List.length_append, HR.out.1]
          rw [HL.out] at hown'
          have HO := Lib.hid hown'
          clear hown' hgrow
          go_wp2
          go_roundw
          case rel => exact ⟨i + 1, by omega, by go_num, HO.out, hK2.out⟩
          case measure => simp [intOf]; omega
        · obtain rfl : i = j := by omega
          have hown2 := HOW.out
          rw [HFL.out] at hown2
          have b4 : decide (i < i) = false := by simp
          clear hown
          rcases owned_runes hown2 with ⟨rfl, h1, h2⟩ | ⟨g, cap, rfl, h1, h2, h3⟩
          · have HE := Lib.hid h2
            clear hown2 h1 h2
            go_wp2
            go_ret
            refine ⟨HKW.out, none, 0, ?_, ?_, ?_⟩
            · rw [HE.out]; rfl
            · rw [HE.out]; exact Nat.le_refl _
            · rw [HE.out]; exact ⟨rfl, fun j x hj => by simp at hj⟩
          · have H2 := Lib.hid h2
            have H3 := Lib.hid h3
            clear hown2 h1 h2 h3
            go_wp2
            go_ret
            exact ⟨HKW.out, some ⟨g, 0, none⟩, cap, rfl, H2.out, H3.out.rn⟩
abbrev zeroS : Obj := chgO 0 0 ⟨#[]⟩ 0 ⟨#[]⟩ false
theorem heap_drew' {w : World} {g : Nat} {o : Option Obj} (h : w.heap[g]? = o) : w.drew.heap[g]? = o := h
theorem pat_facts' {w : World} {g : Nat} {a d : Int} {s : ByteArray} (h : w.heap[g]? = some (patO a d s)) : w.cell? ⟨g, 0, none⟩ = some (.int .i64 a) ∧ w.cell? ⟨g, 1, none⟩ = some (.int .i64 d) ∧ w.cell? ⟨g, 2, none⟩ = some (.string s) :=
  ⟨by rw [cell_of_row _ _ _ _ _ _ h]; rfl, by rw [cell_of_row _ _ _ _ _ _ h]; rfl, by rw [cell_of_row _ _ _ _ _ _ h]; rfl⟩
set_option maxRecDepth 100000 in
theorem smade_yes (s : ByteArray) (A : Option Addr) (n c : Nat) (u : List Int) (at' : Int) (w : World) (hT : Tabs w) (hm : mayB s = true) (hR : Rn w A n u) (hv : Vld u) (hmu : mayB (runesBytes u) = true) :
    Calls Tryd.prog 79 #[.string s, .slice A n c, .int .i64 at'] w fun e w' => e = .returned (.tuple #[chgV (Rw.bat (rs s) u : Nat) (Rw.bdel (rs s) u : Nat) (runesBytes (Rw.bins (rs s) u)) at' ⟨#[]⟩ false, .int .i64 0]) ∧ Kept (fun _ => False) w w' := by
  have hka : Kept (fun _ => False) w (w.alloc zeroS) := (Kept.refl _ w).alloc _
  have HG0 : Hid ((w.alloc zeroS).heap[w.heap.size]? = some zeroS) := heap_alloc_new w _
  have hcv := run_txt (c := c) (hR.kept hka (fun _ _ => id))
  have cB := between_yes s (runesBytes u) (w.alloc zeroS) (hT.kept hka id id) hm hmu
  rw [rs_txt hv] at cB
  unfold btw at cB
  generalize ((Rw.bat (rs s) u : Nat) : Int) = PA at *
  generalize ((Rw.bdel (rs s) u : Nat) : Int) = PD at *
  generalize runesBytes (Rw.bins (rs s) u) = PI at *
  generalize runesBytes u = NX at *
  have HKA := Lib.hid hka
  obtain ⟨g, hg⟩ : ∃ g, w.heap.size = g := ⟨_, rfl⟩
  have HGS := Lib.hid hg
  clear hT hm hmu hka hR hv
  go_enter Tryd.func79, Tryd.ntmps79
  go_upto_region 1 with fail
  simp only [hg] at HG0 ⊢
  clear hg
  generalize w.alloc zeroS = wa at *
  go_upto_region 2 with (go_at_call 74; refine cB.mono ?_; rintro e w1 ⟨rfl, hk1⟩)
  have HG1 : Hid ((w1.alloc (patO PA PD PI)).heap[w1.heap.size]? = some (patO PA PD PI)) := heap_alloc_new w1 _
  have HK1 : Hid (Kept (fun _ => False) w (w1.alloc (patO PA PD PI))) := (HKA.out.trans hk1).alloc _
  have HH1 : Hid ((w1.alloc (patO PA PD PI)).heap[g]? = some zeroS) := (((Kept.refl (fun _ => False) w1).alloc (patO PA PD PI)).block g (by have := hk1.size; have := heap_lt HG0.out; omega) id).trans ((hk1.block g (heap_lt HG0.out) id).trans HG0.out)
  clear hk1 cB hcv
  generalize w1.alloc (patO PA PD PI) = w2 at *
  generalize w1.heap.size = h at *
  obtain ⟨c0, c1, c2⟩ := pat_facts' HG1.out
  obtain ⟨⟨d0, d1, d2, d3, d4, d5⟩, k0, k1, k2, k3, k4, k5⟩ := chg_facts HH1.out
  go_wp2
  refine bodyPost_ret (res_chg rfl _ _ g _ _ _ _ _ _ (0, 0) rfl (chg_six HH1.out _ _ _ _ _ _)) rfl ⟨rfl, ?_⟩
  exact HK1.out.fresh (Kept.six (Kept.refl (fun q => q = g) w2) rfl _ _ _ _ _ _) (fun b hb e => by have := HGS.out; omega)
set_option maxRecDepth 100000 in
theorem smade_no (s : ByteArray) (A : Option Addr) (n c : Nat) (u : List Int) (at' : Int) (w : World) (hT : Tabs w) (hm : mayB s = true) (hR : Rn w A n u) (hn : n ≤ 100000) (hmu : mayB (runesBytes u) = false) :
    Calls Tryd.prog 79 #[.string s, .slice A n c, .int .i64 at'] w fun e w' => e = .returned (.tuple #[chgV 0 0 ⟨#[]⟩ 0 ⟨#[]⟩ false, .int .i64 4]) ∧ Kept (fun _ => False) w w' := by
  have hka : Kept (fun _ => False) w (w.alloc zeroS) := (Kept.refl _ w).alloc _
  have HG0 : Hid ((w.alloc zeroS).heap[w.heap.size]? = some zeroS) := heap_alloc_new w _
  have hcv := run_txt (c := c) (hR.kept hka (fun _ _ => id))
  have hsz := txt_size4 u
  have cB := between_no s (runesBytes u) (w.alloc zeroS) (hT.kept hka id id) hm hmu (by have := hR.1; omega)
  generalize runesBytes u = NX at *
  have HKA := Lib.hid hka
  obtain ⟨g, hg⟩ : ∃ g, w.heap.size = g := ⟨_, rfl⟩
  have HGS := Lib.hid hg
  clear hT hm hmu hka hR hsz
  go_enter Tryd.func79, Tryd.ntmps79
  go_upto_region 1 with fail
  simp only [hg] at HG0 ⊢
  clear hg
  generalize w.alloc zeroS = wa at *
  go_upto_region 2 with (go_at_call 74; refine cB.mono ?_; rintro e w1 ⟨rfl, hk1⟩)
  have HK1 : Hid (Kept (fun _ => False) w (w1.alloc (patO 0 0 ⟨#[]⟩))) := (HKA.out.trans hk1).alloc _
  have HH1 : Hid ((w1.alloc (patO 0 0 ⟨#[]⟩)).heap[g]? = some zeroS) := (((Kept.refl (fun _ => False) w1).alloc (patO 0 0 ⟨#[]⟩)).block g (by have := hk1.size; have := heap_lt HG0.out; omega) id).trans ((hk1.block g (heap_lt HG0.out) id).trans HG0.out)
  clear hk1 cB hcv
  generalize w1.alloc (patO 0 0 ⟨#[]⟩) = w2 at *
  generalize w1.heap.size = h at *
  obtain ⟨⟨d0, d1, d2, d3, d4, d5⟩, k0, k1, k2, k3, k4, k5⟩ := chg_facts HH1.out
  go_wp2
  refine bodyPost_ret (res_chg rfl _ _ g _ _ _ _ _ _ (0, 0) rfl (chg_six HH1.out _ _ _ _ _ _)) rfl ⟨rfl, ?_⟩
  exact HK1.out.fresh (Kept.six (Kept.refl (fun q => q = g) w2) rfl _ _ _ _ _ _) (fun b hb e => by have := HGS.out; omega)
set_option maxRecDepth 100000 in
theorem srest_yes (A : Option Addr) (n c : Nat) (u : List Int) (k : Nat) (w : World) (hT : Tabs w) (hR : Rn w A n u) (hv : Vld u) (hmu : mayB (runesBytes u) = true) (hk : k ≤ u.length) :
    Calls Tryd.prog 78 #[.slice A n c, .int .i64 k] w fun e w' => e = .returned (.int .i64 (Rw.rst u k : Nat)) ∧ Kept (fun _ => False) w w' := by
  have hcv := run_txt (c := c) hR
  have cR := rest_yes (runesBytes u) k w hT hmu (by rw [rs_txt hv]; exact hk)
  rw [rs_txt hv] at cR
  generalize runesBytes u = NX at *
  generalize ((Rw.rst u k : Nat) : Int) = V at *
  clear hT hmu hR hv
  go_enter Tryd.func78, Tryd.ntmps78
  go_wp2_with (go_at_call 68; refine cR.mono ?_; rintro e w1 ⟨rfl, hk1⟩)
  go_ret
  exact ⟨rfl, hk1⟩

theorem cutB_some (a : Addr) (c lo : Nat) : ∃ ad, cutB (some a) c lo = some ad := by
  unfold cutB
  split
  · exact ⟨_, rfl⟩
  · exact ⟨_, rfl⟩
theorem concat_two (pb : Nat) (a1 a2 : Addr) (n1 c1 n2 c2 : Nat) (t1 t2 : List Int) (fr : Nat × Nat) (w : World) (hb : w.heap[pb]? = some (.cells #[.slice (some a1) n1 c1, .slice (some a2) n2 c2] 31 fr)) (h1 : Rn w (some a1) n1 t1) (h2 : Rn w (some a2) n2 t2) (hn : n1 + n2 ≤ 100000) :
    Calls Tryd.prog 77 #[.slice (some ⟨pb, 0, none⟩) 2 2] w fun e w' => Kept (fun _ => False) w w' ∧ ∃ A cap, e = .returned (.slice A (n1 + n2 : Nat) cap) ∧ n1 + n2 ≤ cap ∧ Rn w' A (n1 + n2) (t1 ++ t2) := by
  have hfl : flat [(a1, n1, c1, t1), (a2, n2, c2, t2)] = t1 ++ t2 := by simp [flat]
  have hlen : (t1 ++ t2).length = n1 + n2 := by rw [List.length_append, h1.1, h2.1]
  have hp : Parts w pb [(a1, n1, c1, t1), (a2, n2, c2, t2)] := fun j p hj => by
    match j, hj with
    | 0, hj => injection hj with hj; subst hj; exact ⟨by rw [cell_of_row _ _ _ _ _ _ hb]; rfl, h1⟩
    | 1, hj => injection hj with hj; subst hj; exact ⟨by rw [cell_of_row _ _ _ _ _ _ hb]; rfl, h2⟩
    | _ + 2, hj => cases hj
  have := concat_any pb 2 _ w hp rfl (by omega) (by rw [hfl, hlen]; exact hn)
  rw [hfl, hlen] at this
  exact this
end Go.Proofs.YtkeojjojilfklaaDoor
