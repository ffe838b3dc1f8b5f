/-
  WHAT STAYS: of lists of runes; the law's calls; all that a round calls, in one.
-/
import Derived.Test.YtpgoikecignldaaDoorSfP
import Derived.Test.YtpgoikecignldaaDoorRng
import Derived.Test.YtpgoikecignldaaDoorWk
import Derived.Test.YtpgoikecignldaaDoorSf2
set_option linter.unusedVariables false
namespace Go.Proofs.YtpgoikecignldaaDoor
open Go Go.RowKit

theorem trn_twice (c : Int) : Rw.trn 126 (Rw.trn 126 c) = c := by
  unfold Rw.trn
  (repeat' split) <;> omega
theorem csd_twice {t : List Int} {lo hi : Nat} (h1 : lo ≤ hi) (h2 : hi ≤ t.length) : Rw.csd (Rw.csd t lo hi 126) lo hi 126 = t := by
  apply List.ext_getElem?
  intro i
  rw [Rw.csd_at h1 (by rw [Rw.csd_len h1 h2]; exact h2), Rw.csd_at h1 h2]
  by_cases h : lo ≤ i ∧ i < hi
  · rw [if_pos h, if_pos h]
    cases t[i]? with
    | none => rfl
    | some c => simp [trn_twice]
  · rw [if_neg h, if_neg h]
theorem lenTo_no' : ∀ {u : List Int}, (10 : Int) ∉ u → Rw.lenTo u = u.length
  | [], _ => rfl
  | c :: u, h => by
    have hc : ¬ c = 10 := fun e => h (by simp [e])
    have ih := lenTo_no' (u := u) (fun e => h (by simp [e]))
    unfold Rw.lenTo
    rw [if_neg hc, ih, List.length_cons]
theorem lenTo_cut' : ∀ {x : List Int} (l : List Int), (10 : Int) ∉ x → Rw.lenTo (x ++ 10 :: l) = x.length
  | [], l, _ => by simp [Rw.lenTo]
  | c :: x, l, h => by
    have hc : ¬ c = 10 := fun e => h (by simp [e])
    have ih := lenTo_cut' (x := x) l (fun e => h (by simp [e]))
    rw [List.cons_append]
    unfold Rw.lenTo
    rw [if_neg hc, ih, List.length_cons]
/-- One row shifted. -/
theorem shZ_row {t : List Int} {lo hi : Nat} {key : Int} (hl : lo ≤ t.length) (hb : Rw.beg t lo = lo) (he : Rw.en t lo = hi) : shZ t lo hi key = t.take lo ++ (shR key ((t.take hi).drop lo) ++ t.drop hi) := by
  have hle := Rw.en_le t lo hl
  have hee : Rw.en t hi = hi := by
    by_cases h : hi < t.length
    · have := Rw.en_at t lo (by omega)
      rw [he] at this
      exact Rw.en_stop this
    · exact Rw.en_end (by omega)
  unfold shZ
  rw [hb, hee, shF_last (fun j h1 h2 => Rw.en_none t lo j h1 (by omega))]
theorem row_no10 {t : List Int} {lo hi : Nat} (he : Rw.en t lo = hi) : (10 : Int) ∉ (t.take hi).drop lo := by
  intro hm
  obtain ⟨i, hi', h⟩ := List.getElem_of_mem hm
  have h2 : ((t.take hi).drop lo)[i]? = some 10 := by rw [List.getElem?_eq_getElem hi', h]
  rw [List.getElem?_drop, List.getElem?_take] at h2
  split at h2
  · exact Rw.en_none t lo (lo + i) (by omega) (by omega) h2
  · cases h2
theorem shR_no10 {key : Int} {r : List Int} (h : (10 : Int) ∉ r) : (10 : Int) ∉ shR key r := fun hm => by
  rcases shR_mem hm with e | e
  · cases e
  · exact h e
/-- The same row again, other runes in it. -/
theorem same_row {P R Q : List Int} (hP : P = [] ∨ P[P.length - 1]? = some 10) (hR : (10 : Int) ∉ R) (hQ : Q = [] ∨ ∃ l, Q = 10 :: l) :
    Rw.beg (P ++ (R ++ Q)) P.length = P.length ∧ Rw.en (P ++ (R ++ Q)) P.length = P.length + R.length := by
  constructor
  · rw [Rw.beg_iff]
    rcases hP with rfl | h
    · exact .inl rfl
    · right
      have hpos : 0 < P.length := by
        rcases Nat.eq_zero_or_pos P.length with h0 | h0
        · rw [List.eq_nil_of_length_eq_zero h0] at h; cases h
        · exact h0
      rw [List.getElem?_append_left (by omega), h]
  · unfold Rw.en
    rw [List.drop_left]
    rcases hQ with rfl | ⟨l, rfl⟩
    · rw [List.append_nil, lenTo_no' hR]
    · rw [lenTo_cut' l hR]
theorem sh_back (r : List Int) : shR 60 (shR 62 r) = r := by
  unfold shR
  rw [if_pos rfl, if_neg (by decide)]
  by_cases h : r = []
  · subst h; rfl
  · rw [if_neg h]
    rfl
/-- A row shifted right and left again. -/
theorem shZ_back {t : List Int} {lo hi : Nat} (hl : lo ≤ t.length) (hb : Rw.beg t lo = lo) (he : Rw.en t lo = hi) :
    Rw.beg (shZ t lo hi 62) lo = lo ∧ lo ≤ (shZ t lo hi 62).length ∧ ∃ hi', Rw.en (shZ t lo hi 62) lo = hi' ∧ Rw.en (shZ t lo hi 62) hi' = hi' ∧ shZ (shZ t lo hi 62) lo hi' 60 = t := by
  have hle := Rw.en_le t lo hl
  have hge := Rw.en_ge t lo
  have hno := row_no10 he
  have hrow := shZ_row (key := 62) hl hb he
  have hP : t.take lo = [] ∨ (t.take lo)[(t.take lo).length - 1]? = some 10 := by
    have h := Rw.beg_iff.1 hb
    rcases h with h | h
    · left; rw [h]; rfl
    · by_cases h0 : lo = 0
      · left; rw [h0]; rfl
      · right
        rw [List.length_take, Nat.min_eq_left hl, List.getElem?_take, if_pos (by omega), h]
  have hQ : t.drop hi = [] ∨ ∃ l, t.drop hi = 10 :: l := by
    by_cases h : hi < t.length
    · right
      have := Rw.en_at t lo (by omega)
      rw [he] at this
      exact ⟨_, Rw.drop_cons this⟩
    · left; exact List.drop_eq_nil_of_le (by omega)
  have ht : t = t.take lo ++ ((t.take hi).drop lo ++ t.drop hi) := by
    rw [← List.append_assoc]; exact (Rw.cut3 t (by omega)).symm
  have hPl : (t.take lo).length = lo := by rw [List.length_take]; omega
  generalize hp : t.take lo = P at *
  generalize hr : (t.take hi).drop lo = R at *
  generalize hq : t.drop hi = Q at *
  obtain ⟨s1, s2⟩ := same_row hP (shR_no10 (key := 62) hno) hQ
  rw [hPl] at s1 s2
  rw [hrow]
  have hlW : lo ≤ (P ++ (shR 62 R ++ Q)).length := by rw [List.length_append]; omega
  have hleW := Rw.en_le _ lo hlW
  refine ⟨s1, hlW, lo + (shR 62 R).length, s2, ?_, ?_⟩
  · by_cases h : lo + (shR 62 R).length < (P ++ (shR 62 R ++ Q)).length
    · have := Rw.en_at _ lo (by rw [s2]; exact h)
      rw [s2] at this
      exact Rw.en_stop this
    · exact Rw.en_end (by omega)
  · rw [shZ_row hlW s1 s2]
    have e1 : (P ++ (shR 62 R ++ Q)).take lo = P := by rw [← hPl, List.take_left]
    have e2 : (P ++ (shR 62 R ++ Q)).drop (lo + (shR 62 R).length) = Q := by
      rw [← List.append_assoc, show lo + (shR 62 R).length = (P ++ shR 62 R).length by rw [List.length_append, hPl], List.drop_left]
    have e3 : ((P ++ (shR 62 R ++ Q)).take (lo + (shR 62 R).length)).drop lo = shR 62 R := by
      rw [← List.append_assoc, show lo + (shR 62 R).length = (P ++ shR 62 R).length by rw [List.length_append, hPl], List.take_left, ← hPl, List.drop_left]
    rw [e1, e2, e3, sh_back]
    exact ht.symm
/-! How many bytes a shifted text has. -/
theorem shR_bytes (r : List Int) : (Utf.bytes (shR 62 r)).length ≤ (Utf.bytes r).length + 2 := by
  unfold shR
  rw [if_neg (by decide)]
  by_cases h : r = []
  · rw [if_pos h]; exact Nat.zero_le _
  · rw [if_neg h]
    show (Utf.enc 32 ++ (Utf.enc 32 ++ Utf.bytes r)).length ≤ _
    rw [List.length_append, List.length_append, show (Utf.enc 32).length = 1 by decide]
    omega
theorem joinR_bytes : ∀ rs : List (List Int), (Utf.bytes (joinR (rs.map (shR 62)))).length ≤ (Utf.bytes (joinR rs)).length + 2 * rs.length
  | [] => by simp [joinR]
  | r :: rs => by
    have h1 := shR_bytes r
    have : ∀ rs : List (List Int), (Utf.bytes (((rs.map (shR 62)).map (10 :: ·)).flatten)).length ≤ (Utf.bytes ((rs.map (10 :: ·)).flatten)).length + 2 * rs.length := by
      intro rs
      induction rs with
      | nil => simp
      | cons q rs ih =>
        have := shR_bytes q
        simp only [List.map_cons, List.flatten_cons, Utf.bytes_append, List.length_append, List.length_cons]
        have e : ∀ l : List Int, (Utf.bytes (10 :: l)).length = 1 + (Utf.bytes l).length := fun l => by
          show (Utf.enc 10 ++ Utf.bytes l).length = _
          rw [List.length_append, show (Utf.enc 10).length = 1 by decide]
        rw [e, e]
        omega
    have h2 := this rs
    simp only [joinR, List.map_cons, Utf.bytes_append, List.length_append, List.length_cons]
    omega
theorem len_bytes : ∀ l : List Int, l.length ≤ (Utf.bytes l).length
  | [] => Nat.le_refl _
  | c :: l => by
    have := len_bytes l
    have h := (Utf.enc_length c).1
    show _ ≤ (Utf.enc c ++ Utf.bytes l).length
    rw [List.length_append, List.length_cons]
    omega
theorem shZ_bytes (t : List Int) {lo hi : Nat} (h : Rw.beg t lo ≤ Rw.en t hi) : (Utf.bytes (shZ t lo hi 62)).length ≤ 3 * (Utf.bytes t).length + 2 := by
  unfold shZ shF
  have h1 := joinR_bytes (rowsOf ((t.take (Rw.en t hi)).drop (Rw.beg t lo)))
  obtain ⟨h2, h3⟩ := rowsOf_all _ ((t.take (Rw.en t hi)).drop (Rw.beg t lo)) (Nat.le_refl _)
  rw [h2] at h1
  have h4 := congrArg (fun l => (Utf.bytes l).length) (Rw.cut3 t h)
  simp only [Utf.bytes_append, List.length_append] at h4
  have h5 := len_bytes ((t.take (Rw.en t hi)).drop (Rw.beg t lo))
  rw [Utf.bytes_append, Utf.bytes_append, List.length_append, List.length_append]
  omega
theorem shZ_zero {t : List Int} {lo hi : Nat} {key : Int} (h : (0 : Int) ∉ t) : (0 : Int) ∉ shZ t lo hi key := fun hx => by
  unfold shZ shF at hx
  rcases List.mem_append.1 hx with hx | hx
  · exact h (List.mem_of_mem_take hx)
  · rcases List.mem_append.1 hx with hx | hx
    · rcases joinR_mem hx with e | ⟨r, hr, hx⟩
      · cases e
      · obtain ⟨q, hq, rfl⟩ := List.mem_map.1 hr
        rcases shR_mem hx with e | hx
        · cases e
        · exact h (List.mem_of_mem_take (List.mem_of_mem_drop (mem_rows hq 0 hx)))
    · exact h (List.mem_of_mem_drop hx)
theorem may_shZ {s : ByteArray} {lo hi : Nat} (hm : mayB s = true) (hs : s.size ≤ 1000) (h1 : lo ≤ hi) (h2 : hi ≤ (rs s).length) : mayB (runesBytes (shZ (rs s) lo hi 62)) = true := by
  rw [may_txt (shZ_vld (rs_vld hm)) (shZ_zero (rs_zero hm))]
  have := shZ_bytes (rs s) (lo := lo) (hi := hi) (by have := Rw.beg_le (rs s) lo; have := Rw.en_ge (rs s) hi; omega)
  rw [rs_bytes hm] at this
  exact decide_eq_true (by omega)


set_option maxRecDepth 100000 in
theorem rlen_any (s : ByteArray) (w : World) (h : s.size ≤ 1000000) : Calls Tryd.prog 29 #[.string s] w fun e w' => e = .returned (.int .i64 (rs s).length) ∧ Kept (fun _ => False) w w' := by
  obtain ⟨cap, w2, hcap, hcv, hk2, hlt, hR⟩ := conv_rs s w (by omega)
  generalize rs s = t at *
  have HK := Lib.hid hk2
  clear hk2 hR
  go_enter Tryd.func29, Tryd.ntmps29
  go_wp2
  go_ret
  exact ⟨rfl, HK.out⟩
theorem txt_size4 (t : List Int) : (runesBytes t).size ≤ 4 * t.length := by
  rw [txt_size]
  induction t with
  | nil => exact Nat.le_refl _
  | cons c l ih => show (Utf.enc c ++ Utf.bytes l).length ≤ _; have := (Utf.enc_length c).2; rw [List.length_append, List.length_cons]; omega
theorem pat_facts' {w : World} {g : Nat} {a d : Int} {s : ByteArray} (h : w.heap[g]? = some (patO a d s)) : w.cell? ⟨g, 0, none⟩ = some (.int .i64 a) ∧ w.cell? ⟨g, 1, none⟩ = some (.int .i64 d) ∧ w.cell? ⟨g, 2, none⟩ = some (.string s) :=
  ⟨by rw [cell_of_row _ _ _ _ _ _ h]; rfl, by rw [cell_of_row _ _ _ _ _ _ h]; rfl, by rw [cell_of_row _ _ _ _ _ _ h]; rfl⟩
set_option maxRecDepth 100000 in
set_option maxHeartbeats 1000000 in
theorem rmay4_t (s : ByteArray) (a d : Nat) (x : List Int) (w : World) (hT : Tabs w) (hm : mayB s = true) (had : a + d ≤ (rs s).length) (hv : Vld x) (h0 : (0 : Int) ∉ x) (hl : x.length ≤ 100000) :
    Calls Tryd.prog 10 #[.string s, patV a d (runesBytes x)] w fun e w' => e = .returned (.bool true) ∧ Kept (fun _ => False) w w' := by
  have hsz := txt_size4 x
  have hms := mayB_size hm
  have hka : Kept (fun _ => False) w (w.alloc (patO a d (runesBytes x))) := (Kept.refl _ w).alloc _
  have HG0 : Hid ((w.alloc (patO a d (runesBytes x))).heap[w.heap.size]? = some (patO a d (runesBytes x))) := heap_alloc_new w _
  have HT0 := Lib.hid (hT.kept hka id id)
  have cL := rlen_any s (w.alloc (patO a d (runesBytes x))) (by omega)
  have cM := fun W hW => rmay_any s W (by omega) hW
  rw [hm] at cM
  have cV := fun W hW => valid_any (runesBytes x) W (by omega) hW
  have hval : Lib.validD (runesBytes x).data.toList = true := by rw [txt_list]; exact Utf.valid_bytes x hv
  rw [hval] at cV
  have hnz : ∀ b ∈ (runesBytes x).data.toList, b ≠ 0 := by rw [txt_list]; exact bytes_zero hv h0
  have HNZ := Lib.hid hnz
  have HLT : Hid ((rs s).length ≤ 100000000) := by have := rs_len s; show _ ≤ _; omega
  generalize rs s = t at *
  generalize runesBytes x = PI at *
  have HCM := Lib.hid cM
  have HCV := Lib.hid cV
  have HKA := Lib.hid hka
  obtain ⟨g, hg⟩ : ∃ g, w.heap.size = g := ⟨_, rfl⟩
  have HGS := Lib.hid hg
  rw [hg] at HG0
  clear hg hka hT hm hval hnz cM cV hv h0
  have n1 := fun w => znum_t (x := (a : Int)) (m := (t.length : Int)) (by omega) w
  have n2 := fun w => znum_t (x := (d : Int)) (m := (t.length : Int) - (a : Int)) (by omega) w
  go_enter Tryd.func10, Tryd.ntmps10
  go_upto_region 1 with fail
  simp only [HGS.out]
  generalize w.alloc (patO a d PI) = wa at *
  go_wp2_with fail
  refine cL.mono ?_
  rintro e w1 ⟨rfl, hk1⟩
  have HK1 := Lib.hid (HKA.out.trans hk1)
  have HT1 := Lib.hid (HT0.out.kept hk1 id id)
  have HG1 := Lib.hid ((hk1.block g (heap_lt HG0.out) id).trans HG0.out)
  clear hk1 cL
  go_wp2_with fail
  refine (HCM.out w1 HT1.out).mono ?_
  rintro e w2 ⟨rfl, hk2⟩
  have HK2 := Lib.hid (HK1.out.trans hk2)
  have HT2 := Lib.hid (HT1.out.kept hk2 id id)
  have HG2 := Lib.hid ((hk2.block g (heap_lt HG1.out) id).trans HG1.out)
  clear hk2
  obtain ⟨c0, c1, c2⟩ := pat_facts' HG2.out
  have hw1 : IntKind.i64.wrap ((t.length : Int) - (a : Int)) = (t.length : Int) - (a : Int) := by
    have : t.length ≤ 100000000 := HLT.out
    exact IntWalk.i64_in _ ⟨by omega, by omega⟩
  go_wp2_with (first
    | (go_at_call 18; refine (n1 _).mono ?_; rintro e w' ⟨rfl, hw⟩; have hw2 := hw.symm; subst hw2; clear n1)
    | (go_at_call 18; refine (n2 _).mono ?_; rintro e w' ⟨rfl, hw⟩; have hw2 := hw.symm; subst hw2; clear n2)
    | (go_at_call 16; refine (HCV.out _ HT2.out).mono ?_; rintro e w3 ⟨rfl, hk3⟩; have HK3 := Lib.hid (HK2.out.trans hk3); have HG3 := Lib.hid ((hk3.block g (heap_lt HG2.out) id).trans HG2.out); clear hk3))
  clear c0 c1 c2 hw1
  obtain ⟨c0, c1, c2⟩ := pat_facts' HG3.out
  go_loop [6] (fun v => ∃ k : Nat, k ≤ PI.size ∧ v = .int .i64 k) (fun v => PI.size - (intOf v).toNat)
  case atStart => exact ⟨0, Nat.zero_le _, rfl⟩
  case round =>
    obtain ⟨k, hk, rfl⟩ := hrel
    by_cases hlt : k < PI.size
    · obtain ⟨b, hb⟩ : ∃ b, PI[k]'hlt = b := ⟨_, rfl⟩
      have hne : b ≠ 0 := HNZ.out b (List.mem_of_getElem? (by rw [← hb]; exact byte_at PI k hlt))
      have hbn : b.toNat ≠ 0 := fun e => hne (UInt8.toNat_inj.1 (by rw [e]; rfl))
      have e3 : ((b.toNat : Int) == 0) = false := by rw [beq_eq_false_iff_ne]; omega
      clear hne hbn
      go_wp2
      go_round
      case rel => exact ⟨k + 1, by omega, by go_num⟩
      case measure => simp [intOf]; omega
    · obtain rfl : k = PI.size := by omega
      have b1 : decide (PI.size < PI.size) = false := by simp
      go_wp2
      go_ret
      exact ⟨rfl, HK3.out⟩
theorem Rw.cpl_take : ∀ s t : List Int, s.take (cpl s t) = t.take (cpl s t)
  | [], t => by simp [cpl]
  | a :: s, [] => by simp [cpl]
  | a :: s, b :: t => by
    unfold cpl
    split
    · rename_i h
      subst h
      rw [List.take_succ_cons, List.take_succ_cons, cpl_take s t]
    · rfl
theorem Rw.suf {s t : List Int} (q : Nat) (hs : q ≤ s.length) (ht : q ≤ t.length) (h : s.reverse.take q = t.reverse.take q) : s.drop (s.length - q) = t.drop (t.length - q) := by
  rw [List.take_reverse, List.take_reverse] at h
  have := congrArg List.reverse h
  simpa using this
/-- The patch between two texts, applied to the one, makes the other. -/
theorem Rw.app (s t : List Int) : s.take (bat s t) ++ bins s t ++ s.drop (bat s t + bdel s t) = t := by
  obtain ⟨h1, h2⟩ := bat_le s t
  obtain ⟨h3, h4⟩ := bsf_le s t
  have e1 : s.take (bat s t) = t.take (bat s t) := cpl_take s t
  have e2 : (s.drop (bat s t)).drop ((s.drop (bat s t)).length - bsf s t) = (t.drop (bat s t)).drop ((t.drop (bat s t)).length - bsf s t) :=
    suf _ (by rw [List.length_drop]; exact h3) (by rw [List.length_drop]; exact h4) (cpl_take _ _)
  rw [List.drop_drop, List.length_drop, List.length_drop] at e2
  have e3 : s.drop (bat s t + bdel s t) = (t.drop (bat s t)).drop (t.length - bat s t - bsf s t) := by
    rw [← e2]
    rfl
  rw [e1, e3]
  unfold bins
  rw [List.append_assoc, List.take_append_drop, List.take_append_drop]
theorem Rw.app_le (s t : List Int) : bat s t + bdel s t ≤ s.length := by
  obtain ⟨h1, h2⟩ := bat_le s t
  obtain ⟨h3, h4⟩ := bsf_le s t
  unfold bdel
  omega
set_option maxRecDepth 100000 in
set_option maxHeartbeats 1000000 in
theorem b15_rows (A : Option Addr) (n c : Nat) (t : List Int) (a : Nat) (w : World) (hA : Rn w A n t) (ha : a ≤ n) (hn : n ≤ 6000) :
    Calls Tryd.prog 12 #[.slice A n c, .int .i64 a, .int .i64 a, .int .i64 2] w fun e w' => e = .returned (rngV (Rw.beg t a : Nat) (Rw.en t a : Nat) true) ∧ Kept (fun _ => False) w w' := by
  obtain ⟨m, hm⟩ : ∃ m, min a a = m := ⟨_, rfl⟩
  obtain ⟨M, hM⟩ : ∃ M, max a a = M := ⟨_, rfl⟩
  have hmI : min (a : Int) (a : Int) = (m : Int) := by omega
  have hMI : max (a : Int) (a : Int) = (M : Int) := by omega
  have hma : m = a := by omega
  have hMa : M = a := by omega
  rw [show (Rw.beg t a) = Rw.beg t m by rw [hma], show (Rw.en t a) = Rw.en t M by rw [hMa]]
  have hmn : m ≤ n := by omega
  have hMn : M ≤ n := by omega
  have hka : Kept (fun _ => False) w ((w.alloc (rngO 0 0 false)).alloc (rngO m M false)) := ((Kept.refl _ w).alloc _).alloc _
  have hR := hA.kept hka (fun _ _ => id)
  have HG0 : Hid (((w.alloc (rngO 0 0 false)).alloc (rngO m M false)).heap[w.heap.size]? = some (rngO 0 0 false)) := heap_two' w _ _
  have HY0 : Hid (((w.alloc (rngO 0 0 false)).alloc (rngO m M false)).heap[w.heap.size + 1]? = some (rngO m M false)) := heap_two'' w _ _
  have HKA := Lib.hid hka
  have HR := Lib.hid hR
  obtain ⟨g, hg⟩ : ∃ g, w.heap.size = g := ⟨_, rfl⟩
  have HG := Lib.hid hg
  rw [hg] at HG0 HY0
  clear hA hka hg hR hm hM hma hMa
  go_enter Tryd.func12, Tryd.ntmps12
  go_upto_region 2 with fail
  simp only [HG.out]
  generalize (w.alloc (rngO 0 0 false)).alloc (rngO m M false) = W0 at *
  obtain ⟨f0, f1, f2⟩ := rng_facts HY0.out
  obtain ⟨k0, k1, k2⟩ := rng_free HY0.out
  obtain ⟨d0, d1, d2⟩ := rng_facts HG0.out
  obtain ⟨e0, e1, e2⟩ := rng_free HG0.out
  have cB := fun (q : Nat) => rbegin_any A n c t m (W0.drewN q) (HR.out.drewN q) hmn (by omega)
  have cE := fun (q : Nat) => rend_any A n c t M (W0.drewN q) (HR.out.drewN q) hMn (by omega)
  clear hmI hMI
  have hgg1 : ¬ g = g + 1 := by omega
  have hgg2 : ¬ g + 1 = g := by omega
  have HXd : Hid (∀ (q : Nat) v0 v1 v2, ((((W0.drewN q).setCell ⟨g + 1, 0, none⟩ v0).setCell ⟨g + 1, 1, none⟩ v1).setCell ⟨g + 1, 2, none⟩ v2).heap[g]? = some (rngO 0 0 false)) := fun q v0 v1 v2 => (heap_far hgg1 _).trans ((heap_far hgg1 _).trans ((heap_far hgg1 _).trans HG0.out))
  have HKd : Hid (∀ (q : Nat) v0 v1 v2 u0 u1 u2, Kept (fun _ => False) w (((((((W0.drewN q).setCell ⟨g + 1, 0, none⟩ v0).setCell ⟨g + 1, 1, none⟩ v1).setCell ⟨g + 1, 2, none⟩ v2).setCell ⟨g, 0, none⟩ u0).setCell ⟨g, 1, none⟩ u1).setCell ⟨g, 2, none⟩ u2)) := fun q v0 v1 v2 u0 u1 u2 =>
    (HKA.out.drewN q).fresh (Kept.three (Kept.three (Kept.refl (fun r => r = g ∨ r = g + 1) _) (.inr rfl) _ _ _) (.inl rfl) _ _ _) (fun r hr (e : r = g ∨ r = g + 1) => by have := HG.out; omega)
  go_upto_region 7 with fail
  go_region_with (first
    | (go_at_call 20; refine (cB _).mono ?_; rintro e w2 ⟨rfl, hw⟩; have hw2 := hw.symm; subst hw2)
    | (go_at_call 13; refine (cE _).mono ?_; rintro e w2 ⟨rfl, hw⟩; have hw2 := hw.symm; subst hw2))
  all_goals
    go_wp2_with fail
    refine bodyPost_ret (res_rng rfl _ _ g _ _ _ (0, 0) rfl (rng_three (HXd.out _ _ _ _) _ _ _)) rfl ⟨rfl, ?_⟩
    exact HKd.out _ _ _ _ _ _ _
theorem csd_rng {t : List Int} {lo hi : Nat} {line : Bool} {key : Int} (h : Rw.Rng t lo hi line) : Rw.Rng (Rw.csd t lo hi key) lo hi line := by
  obtain ⟨h1, h2, h3⟩ := h
  have hl := Rw.csd_len (key := key) h1 h2
  refine ⟨h1, by rw [hl]; exact h2, fun e => ?_⟩
  obtain ⟨h4, h5⟩ := h3 e
  exact ⟨by rw [Rw.beg_same (Rw.csd_10 h1 h2)]; exact h4, by rw [Rw.en_same hl (Rw.csd_10 h1 h2) hi (by rw [hl]; exact h2)]; exact h5⟩
/-- The patch between two texts: may, and applied to the one it makes the other. -/
theorem rmay_b (a b : ByteArray) (w : World) (hT : Tabs w) (hma : mayB a = true) (hmb : mayB b = true) :
    Calls Tryd.prog 10 #[.string a, btw (rs a) (rs b)] w fun e w' => e = .returned (.bool true) ∧ Kept (fun _ => False) w w' := by
  have hin : ∀ x ∈ Rw.bins (rs a) (rs b), x ∈ rs b := fun x hx => by
    unfold Rw.bins at hx
    exact List.mem_of_mem_drop (List.mem_of_mem_take hx)
  have hbl := rs_len b
  have hbs := mayB_size hmb
  have hl : (Rw.bins (rs a) (rs b)).length ≤ 100000 := by
    unfold Rw.bins
    rw [List.length_take, List.length_drop]
    omega
  exact rmay4_t a (Rw.bat (rs a) (rs b)) (Rw.bdel (rs a) (rs b)) (Rw.bins (rs a) (rs b)) w hT hma (Rw.app_le _ _) (fun x hx => rs_vld hmb x (hin x hx)) (fun hx => rs_zero hmb (hin 0 hx)) hl
theorem rapply_b (a b : ByteArray) (w : World) (hma : mayB a = true) (hmb : mayB b = true) :
    Calls Tryd.prog 11 #[.string a, btw (rs a) (rs b)] w fun e w' => e = .returned (.string b) ∧ Kept (fun _ => False) w w' := by
  have hsz := txt_size4 (Rw.bins (rs a) (rs b))
  have hbl := rs_len b
  have hbs := mayB_size hmb
  have has := mayB_size hma
  have hl : (Rw.bins (rs a) (rs b)).length ≤ 4000 := by
    unfold Rw.bins
    rw [List.length_take, List.length_drop]
    omega
  have h := rapply_any a (Rw.bat (rs a) (rs b)) (Rw.bdel (rs a) (rs b)) (runesBytes (Rw.bins (rs a) (rs b))) w (by omega) (Rw.app_le _ _) (by omega)
  rw [txt_append, txt_append, Rw.app, txt_rs hmb] at h
  exact h
/-- A text turned: what the turned one is, and that it is turned back. -/
theorem turned {s : ByteArray} {lo hi : Nat} (hm : mayB s = true) (h1 : lo ≤ hi) (h2 : hi ≤ (rs s).length) :
    ∃ x, runesBytes (Rw.csd (rs s) lo hi 126) = x ∧ mayB x = true ∧ rs x = Rw.csd (rs s) lo hi 126 ∧ Rw.csd (rs x) lo hi 126 = rs s := by
  have hv := csd_vld (lo := lo) (hi := hi) (key := 126) (rs_vld hm)
  have hr : rs (runesBytes (Rw.csd (rs s) lo hi 126)) = Rw.csd (rs s) lo hi 126 := rs_txt hv
  exact ⟨_, rfl, may_csd hm h1, hr, by rw [hr, csd_twice h1 h2]⟩
/-- A text shifted right. -/
theorem shifted62 {s : ByteArray} {lo hi : Nat} (hm : mayB s = true) (hs : s.size ≤ 1000) (h1 : lo ≤ hi) (h2 : hi ≤ (rs s).length) :
    ∃ x, runesBytes (shZ (rs s) lo hi 62) = x ∧ mayB x = true ∧ rs x = shZ (rs s) lo hi 62 :=
  ⟨_, rfl, may_shZ hm hs h1 h2, rs_txt (shZ_vld (rs_vld hm))⟩


theorem joinR_ge : ∀ rs : List (List Int), (joinR rs).length ≤ (joinR (rs.map (shR 62))).length
  | [] => by simp [joinR]
  | r :: rs => by
    have h0 : ∀ r : List Int, r.length ≤ (shR 62 r).length := fun r => by
      unfold shR
      rw [if_neg (by decide)]
      by_cases h : r = []
      · rw [if_pos h, h]; exact Nat.le_refl _
      · rw [if_neg h, List.length_cons, List.length_cons]; omega
    have h1 := h0 r
    have : ∀ rs : List (List Int), ((rs.map (10 :: ·)).flatten).length ≤ (((rs.map (shR 62)).map (10 :: ·)).flatten).length := by
      intro rs
      induction rs with
      | nil => simp
      | cons q rs ih =>
        have := h0 q
        simp only [List.map_cons, List.flatten_cons, List.length_append, List.length_cons]
        omega
    have h2 := this rs
    simp only [joinR, List.map_cons, List.length_append]
    omega
theorem shZ_ge (t : List Int) {lo hi : Nat} (h : Rw.beg t lo ≤ Rw.en t hi) : t.length ≤ (shZ t lo hi 62).length := by
  unfold shZ shF
  have h1 := joinR_ge (rowsOf ((t.take (Rw.en t hi)).drop (Rw.beg t lo)))
  obtain ⟨h2, h3⟩ := rowsOf_all _ ((t.take (Rw.en t hi)).drop (Rw.beg t lo)) (Nat.le_refl _)
  rw [h2] at h1
  have h4 := congrArg List.length (Rw.cut3 t h)
  simp only [List.length_append] at h4
  rw [List.length_append, List.length_append]
  omega
/-- What a call of Of tells. -/
abbrev OfTells (s : ByteArray) (a b : Nat) (ln : Bool) (key : Int) (A D : Int) (P : ByteArray) (X : Int) (K : ByteArray) (l : Bool) : Prop :=
  ∀ W, Tabs W → Mx W → Calls Tryd.prog 8 #[.string s, rngV a b ln, .int .i64 key, .int .i64 0] W fun e w' => e = .returned (.tuple #[chgV A D P X K l, .int .i64 0]) ∧ Kept (fun _ => False) W w'
theorem of_s_yes (s : ByteArray) (a b : Nat) (ln : Bool) (key : Int) (u : List Int) (hu : shZ (rs s) a b key = u) (hmu : mayB (runesBytes u) = true) (hm : mayB s = true) (hr : Rw.Rng (rs s) a b ln) (hkey : key = 62 ∨ key = 60) :
    OfTells s a b ln key (Rw.bat (rs s) u : Nat) (Rw.bdel (rs s) u : Nat) (runesBytes (Rw.bins (rs s) u)) (Rw.rst u (Rw.fst u (Rw.beg (rs s) a)) : Nat) ⟨#[]⟩ false := by
  subst hu
  intro W hW hMW
  refine (of_s s a b ln key 0 W hW hMW hm (Nat.zero_le _) hr hkey).mono ?_
  rintro e w' ⟨⟨v, rfl, hv⟩, hk⟩
  exact ⟨by rw [hv.1 hmu]; rfl, hk⟩
/-- A patch that may be, and what it makes. -/
abbrev PatMakes (s : ByteArray) (A D : Int) (P : ByteArray) (r : ByteArray) : Prop :=
  (∀ W, Tabs W → Calls Tryd.prog 10 #[.string s, patV A D P] W fun e w' => e = .returned (.bool true) ∧ Kept (fun _ => False) W w') ∧
  (∀ W, Calls Tryd.prog 11 #[.string s, patV A D P] W fun e w' => e = .returned (.string r) ∧ Kept (fun _ => False) W w')
theorem pat_makes {a b : ByteArray} (hma : mayB a = true) (hmb : mayB b = true) : PatMakes a (Rw.bat (rs a) (rs b) : Nat) (Rw.bdel (rs a) (rs b) : Nat) (runesBytes (Rw.bins (rs a) (rs b))) b :=
  ⟨fun W hW => rmay_b a b W hW hma hmb, fun W => rapply_b a b W hma hmb⟩
theorem stay_facts (s : ByteArray) (a b : Nat) (ln : Bool) (hm : mayB s = true) (hs : s.size ≤ 1000) (hr : Rw.Rng (rs s) a b ln) :
    ∃ (x z : ByteArray) (B0 B1 D0 D1 Y0 Y1 X1 X2 X3 X4 : Int) (B2 D2 Y2 TK : ByteArray), z.size ≤ 4000 ∧ a ≤ (rs z).length ∧
      OfTells s a b ln 121 0 0 ⟨#[]⟩ X1 TK ln ∧ OfTells s a b ln 16777342 B0 B1 B2 X2 ⟨#[]⟩ false ∧ OfTells s a b ln 62 D0 D1 D2 X3 ⟨#[]⟩ false ∧ OfTells x a b ln 16777342 Y0 Y1 Y2 X4 ⟨#[]⟩ false ∧
      PatMakes s B0 B1 B2 x ∧ PatMakes s D0 D1 D2 z ∧ PatMakes x Y0 Y1 Y2 s ∧
      (ln = true → Rw.en (rs s) a = b → ∃ (e : Nat) (V0 V1 X5 : Int) (V2 : ByteArray), Rw.beg (rs z) a = a ∧ Rw.en (rs z) a = e ∧ OfTells z a e true 60 V0 V1 V2 X5 ⟨#[]⟩ false ∧ PatMakes z V0 V1 V2 s) := by
  obtain ⟨h1, h2, h3⟩ := id hr
  obtain ⟨x, hx, hmx, hrx, hcx⟩ := turned hm h1 h2
  obtain ⟨z, hz, hmz, hrz⟩ := shifted62 hm hs h1 h2
  have hrx' : Rw.Rng (rs x) a b ln := by rw [hrx]; exact csd_rng hr
  have cC := fun W hW => of_c s a b ln 126 0 W hW hm (Nat.zero_le _) hr (.inr (.inr rfl))
  have cX := fun W hW => of_c x a b ln 126 0 W hW hmx (Nat.zero_le _) hrx' (.inr (.inr rfl))
  rw [← hrx] at cC
  rw [hcx] at cX
  have cS := of_s_yes s a b ln 62 (rs z) hrz.symm (by rw [txt_rs hmz]; exact hmz) hm hr (.inl rfl)
  refine ⟨x, z, _, _, _, _, _, _, _, _, _, _, _, _, _, _, mayB_size hmz, ?_, fun W hW _ => of_y s a b ln 0 W hW hm (Nat.zero_le _) hr, fun W hW _ => cC W hW, cS, fun W hW _ => cX W hW, pat_makes hm hmx, pat_makes hm hmz, pat_makes hmx hm, fun hln he => ?_⟩
  · rw [hrz]
    have := shZ_ge (rs s) (lo := a) (hi := b) (by have := Rw.beg_le (rs s) a; have := Rw.en_ge (rs s) b; omega)
    omega
  · obtain ⟨k1, k2, e, k3, k4, k5⟩ := shZ_back (t := rs s) (lo := a) (hi := b) (by omega) (h3 hln).1 he
    rw [← hrz] at k1 k2 k3 k4 k5
    have hae : a ≤ e := by rw [← k3]; exact Rw.en_ge _ _
    have hel : e ≤ (rs z).length := by rw [← k3]; exact Rw.en_le _ _ k2
    have cV := of_s_yes z a e true 60 (rs s) k5 (by rw [txt_rs hm]; exact hm) hmz ⟨hae, hel, fun _ => ⟨k1, k4⟩⟩ (.inr rfl)
    exact ⟨e, _, _, _, _, k1, k3, cV, pat_makes hmz hm⟩
end Go.Proofs.YtpgoikecignldaaDoor
