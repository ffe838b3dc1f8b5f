/-
  HISTORY: an act of the law.
  HISTORY of a tree: whatever is committed.
-/
import Derived.Test.YthbfmdnibijapaaDoorHz25
set_option linter.unusedVariables false
namespace Go.Proofs.YthbfmdnibijapaaDoor
open Go Go.RowKit

abbrev actO8 (a : NodeS) : Obj := .cells #[.int .i64 a.sq, .int .i64 a.pa, .int .i64 a.at_, .string a.tx] 31
theorem act_facts8 {W : World} {g : Nat} {a : NodeS} (h : W.heap[g]? = some (actO8 a)) : W.cell? ⟨g, 0, none⟩ = some (.int .i64 a.sq) ∧ W.cell? ⟨g, 1, none⟩ = some (.int .i64 a.pa) ∧ W.cell? ⟨g, 3, none⟩ = some (.string a.tx) :=
  ⟨cell_of_row _ _ _ _ _ _ h, cell_of_row _ _ _ _ _ _ h, cell_of_row _ _ _ _ _ _ h⟩
set_option maxRecDepth 100000 in
set_option maxHeartbeats 4000000 in
theorem does_back (hb : Nat) (a : NodeS) (W : World) (P : ByteArray → Int → Int → World → Prop) (hkk : ∀ W : World, Calls Tryd.prog 6 #[.int .i64 a.sq, .int .i64 10] W fun r W' => r = .returned (.int .i64 5) ∧ W' = W)
    (hC : ∀ W', Kept (fun _ => False) W W' → Calls Tryd.prog 26 #[.pointer (some ⟨hb, 0, none⟩)] W' fun r w' => ∃ s x e, r = .returned (.tuple #[.string s, .int .i64 x, .int .i64 e]) ∧ P s x e w') :
    Calls Tryd.prog 11 #[.pointer (some ⟨hb, 0, none⟩), .agg #[.int .i64 a.sq, .int .i64 a.pa, .int .i64 a.at_, .string a.tx]] W fun r w' => ∃ s x e, r = .returned (.tuple #[.string s, .int .i64 x, .int .i64 e]) ∧ P s x e w' := by
  have hk0 : Kept (fun _ => False) W (W.alloc (actO8 a)) := (Kept.refl _ W).alloc _
  obtain ⟨c0, c1, c3⟩ := act_facts8 (heap_alloc_new W (actO8 a))
  have hC2 := hC _ hk0
  obtain ⟨g, hg⟩ : ∃ g, W.heap.size = g := ⟨_, rfl⟩
  have HGS := Lib.hid hg
  simp only [hg] at c0 c1 c3
  have HW := Lib.hid hkk
  obtain ⟨a0, a1, a2, a3⟩ := a
  simp only at c0 c1 c3 hC2 HW
  clear hg hC hk0 hkk
  go_enter Tryd.func11, Tryd.ntmps11
  go_upto_region 1 with fail
  simp only [HGS.out]
  generalize W.alloc _ = w0 at *
  go_wp2_with (first
    | (go_at_call 6; refine (HW.out _).mono ?_; rintro e w' ⟨rfl, hw⟩; have hw2 := hw.symm; clear hw; subst hw2)
    | (go_at_call 26; refine hC2.mono ?_; rintro r w2 ⟨s1, x1, e1, rfl, hP⟩; have HP := Lib.hid hP; clear hP hC2))
  exact bodyPost_ret (v := .tuple #[.string s1, .int .i64 x1, .int .i64 e1]) (by simp [results, Tryd.results11, go_sem]) rfl ⟨_, _, _, rfl, HP.out⟩
set_option maxRecDepth 100000 in
set_option maxHeartbeats 4000000 in
theorem does_again (hb : Nat) (a : NodeS) (W : World) (P : ByteArray → Int → Int → World → Prop) (hkk : ∀ W : World, Calls Tryd.prog 6 #[.int .i64 a.sq, .int .i64 10] W fun r W' => r = .returned (.int .i64 6) ∧ W' = W)
    (hC : ∀ W', Kept (fun _ => False) W W' → Calls Tryd.prog 27 #[.pointer (some ⟨hb, 0, none⟩)] W' fun r w' => ∃ s x e, r = .returned (.tuple #[.string s, .int .i64 x, .int .i64 e]) ∧ P s x e w') :
    Calls Tryd.prog 11 #[.pointer (some ⟨hb, 0, none⟩), .agg #[.int .i64 a.sq, .int .i64 a.pa, .int .i64 a.at_, .string a.tx]] W fun r w' => ∃ s x e, r = .returned (.tuple #[.string s, .int .i64 x, .int .i64 e]) ∧ P s x e w' := by
  have hk0 : Kept (fun _ => False) W (W.alloc (actO8 a)) := (Kept.refl _ W).alloc _
  obtain ⟨c0, c1, c3⟩ := act_facts8 (heap_alloc_new W (actO8 a))
  have hC2 := hC _ hk0
  obtain ⟨g, hg⟩ : ∃ g, W.heap.size = g := ⟨_, rfl⟩
  have HGS := Lib.hid hg
  simp only [hg] at c0 c1 c3
  have HW := Lib.hid hkk
  obtain ⟨a0, a1, a2, a3⟩ := a
  simp only at c0 c1 c3 hC2 HW
  clear hg hC hk0 hkk
  go_enter Tryd.func11, Tryd.ntmps11
  go_upto_region 1 with fail
  simp only [HGS.out]
  generalize W.alloc _ = w0 at *
  go_wp2_with (first
    | (go_at_call 6; refine (HW.out _).mono ?_; rintro e w' ⟨rfl, hw⟩; have hw2 := hw.symm; clear hw; subst hw2)
    | (go_at_call 27; refine hC2.mono ?_; rintro r w2 ⟨s1, x1, e1, rfl, hP⟩; have HP := Lib.hid hP; clear hP hC2))
  exact bodyPost_ret (v := .tuple #[.string s1, .int .i64 x1, .int .i64 e1]) (by simp [results, Tryd.results11, go_sem]) rfl ⟨_, _, _, rfl, HP.out⟩
set_option maxRecDepth 100000 in
set_option maxHeartbeats 4000000 in
theorem does_earlier (hb : Nat) (a : NodeS) (W : World) (P : ByteArray → Int → Int → World → Prop) (hkk : ∀ W : World, Calls Tryd.prog 6 #[.int .i64 a.sq, .int .i64 10] W fun r W' => r = .returned (.int .i64 7) ∧ W' = W)
    (hC : ∀ W', Kept (fun _ => False) W W' → Calls Tryd.prog 31 #[.pointer (some ⟨hb, 0, none⟩)] W' fun r w' => ∃ s x e, r = .returned (.tuple #[.string s, .int .i64 x, .int .i64 e]) ∧ P s x e w') :
    Calls Tryd.prog 11 #[.pointer (some ⟨hb, 0, none⟩), .agg #[.int .i64 a.sq, .int .i64 a.pa, .int .i64 a.at_, .string a.tx]] W fun r w' => ∃ s x e, r = .returned (.tuple #[.string s, .int .i64 x, .int .i64 e]) ∧ P s x e w' := by
  have hk0 : Kept (fun _ => False) W (W.alloc (actO8 a)) := (Kept.refl _ W).alloc _
  obtain ⟨c0, c1, c3⟩ := act_facts8 (heap_alloc_new W (actO8 a))
  have hC2 := hC _ hk0
  obtain ⟨g, hg⟩ : ∃ g, W.heap.size = g := ⟨_, rfl⟩
  have HGS := Lib.hid hg
  simp only [hg] at c0 c1 c3
  have HW := Lib.hid hkk
  obtain ⟨a0, a1, a2, a3⟩ := a
  simp only at c0 c1 c3 hC2 HW
  clear hg hC hk0 hkk
  go_enter Tryd.func11, Tryd.ntmps11
  go_upto_region 1 with fail
  simp only [HGS.out]
  generalize W.alloc _ = w0 at *
  go_wp2_with (first
    | (go_at_call 6; refine (HW.out _).mono ?_; rintro e w' ⟨rfl, hw⟩; have hw2 := hw.symm; clear hw; subst hw2)
    | (go_at_call 31; refine hC2.mono ?_; rintro r w2 ⟨s1, x1, e1, rfl, hP⟩; have HP := Lib.hid hP; clear hP hC2))
  exact bodyPost_ret (v := .tuple #[.string s1, .int .i64 x1, .int .i64 e1]) (by simp [results, Tryd.results11, go_sem]) rfl ⟨_, _, _, rfl, HP.out⟩
set_option maxRecDepth 100000 in
set_option maxHeartbeats 4000000 in
theorem does_later (hb : Nat) (a : NodeS) (W : World) (P : ByteArray → Int → Int → World → Prop) (hkk : ∀ W : World, Calls Tryd.prog 6 #[.int .i64 a.sq, .int .i64 10] W fun r W' => r = .returned (.int .i64 8) ∧ W' = W)
    (hC : ∀ W', Kept (fun _ => False) W W' → Calls Tryd.prog 32 #[.pointer (some ⟨hb, 0, none⟩)] W' fun r w' => ∃ s x e, r = .returned (.tuple #[.string s, .int .i64 x, .int .i64 e]) ∧ P s x e w') :
    Calls Tryd.prog 11 #[.pointer (some ⟨hb, 0, none⟩), .agg #[.int .i64 a.sq, .int .i64 a.pa, .int .i64 a.at_, .string a.tx]] W fun r w' => ∃ s x e, r = .returned (.tuple #[.string s, .int .i64 x, .int .i64 e]) ∧ P s x e w' := by
  have hk0 : Kept (fun _ => False) W (W.alloc (actO8 a)) := (Kept.refl _ W).alloc _
  obtain ⟨c0, c1, c3⟩ := act_facts8 (heap_alloc_new W (actO8 a))
  have hC2 := hC _ hk0
  obtain ⟨g, hg⟩ : ∃ g, W.heap.size = g := ⟨_, rfl⟩
  have HGS := Lib.hid hg
  simp only [hg] at c0 c1 c3
  have HW := Lib.hid hkk
  obtain ⟨a0, a1, a2, a3⟩ := a
  simp only at c0 c1 c3 hC2 HW
  clear hg hC hk0 hkk
  go_enter Tryd.func11, Tryd.ntmps11
  go_upto_region 1 with fail
  simp only [HGS.out]
  generalize W.alloc _ = w0 at *
  go_wp2_with (first
    | (go_at_call 6; refine (HW.out _).mono ?_; rintro e w' ⟨rfl, hw⟩; have hw2 := hw.symm; clear hw; subst hw2)
    | (go_at_call 32; refine hC2.mono ?_; rintro r w2 ⟨s1, x1, e1, rfl, hP⟩; have HP := Lib.hid hP; clear hP hC2))
  exact bodyPost_ret (v := .tuple #[.string s1, .int .i64 x1, .int .i64 e1]) (by simp [results, Tryd.results11, go_sem]) rfl ⟨_, _, _, rfl, HP.out⟩
set_option maxRecDepth 100000 in
set_option maxHeartbeats 4000000 in
theorem does_jump (hb : Nat) (a : NodeS) (W : World) (P : ByteArray → Int → Int → World → Prop) (hkk : ∀ W : World, Calls Tryd.prog 6 #[.int .i64 a.sq, .int .i64 10] W fun r W' => r = .returned (.int .i64 9) ∧ W' = W)
    (hC : ∀ W', Kept (fun _ => False) W W' → Calls Tryd.prog 33 #[.pointer (some ⟨hb, 0, none⟩), .int .i64 a.pa] W' fun r w' => ∃ s x e, r = .returned (.tuple #[.string s, .int .i64 x, .int .i64 e]) ∧ P s x e w') :
    Calls Tryd.prog 11 #[.pointer (some ⟨hb, 0, none⟩), .agg #[.int .i64 a.sq, .int .i64 a.pa, .int .i64 a.at_, .string a.tx]] W fun r w' => ∃ s x e, r = .returned (.tuple #[.string s, .int .i64 x, .int .i64 e]) ∧ P s x e w' := by
  have hk0 : Kept (fun _ => False) W (W.alloc (actO8 a)) := (Kept.refl _ W).alloc _
  obtain ⟨c0, c1, c3⟩ := act_facts8 (heap_alloc_new W (actO8 a))
  have hC2 := hC _ hk0
  obtain ⟨g, hg⟩ : ∃ g, W.heap.size = g := ⟨_, rfl⟩
  have HGS := Lib.hid hg
  simp only [hg] at c0 c1 c3
  have HW := Lib.hid hkk
  obtain ⟨a0, a1, a2, a3⟩ := a
  simp only at c0 c1 c3 hC2 HW
  clear hg hC hk0 hkk
  go_enter Tryd.func11, Tryd.ntmps11
  go_upto_region 1 with fail
  simp only [HGS.out]
  generalize W.alloc _ = w0 at *
  go_wp2_with (first
    | (go_at_call 6; refine (HW.out _).mono ?_; rintro e w' ⟨rfl, hw⟩; have hw2 := hw.symm; clear hw; subst hw2)
    | (go_at_call 33; refine hC2.mono ?_; rintro r w2 ⟨s1, x1, e1, rfl, hP⟩; have HP := Lib.hid hP; clear hP hC2))
  exact bodyPost_ret (v := .tuple #[.string s1, .int .i64 x1, .int .i64 e1]) (by simp [results, Tryd.results11, go_sem]) rfl ⟨_, _, _, rfl, HP.out⟩
set_option maxRecDepth 100000 in
set_option maxHeartbeats 4000000 in
theorem does_commit (hb : Nat) (a : NodeS) (W : World) (P : ByteArray → Int → Int → World → Prop) (kd : Nat) (hkd : kd ≤ 4) (hkk : ∀ W : World, Calls Tryd.prog 6 #[.int .i64 a.sq, .int .i64 10] W fun r W' => r = .returned (.int .i64 kd) ∧ W' = W)
    (hC : ∀ W', Kept (fun _ => False) W W' → Calls Tryd.prog 25 #[.pointer (some ⟨hb, 0, none⟩), .string a.tx, .int .i64 a.pa] W' fun r w' => ∃ e : Int, r = .returned (.int .i64 e) ∧ P ⟨#[]⟩ 0 e w') :
    Calls Tryd.prog 11 #[.pointer (some ⟨hb, 0, none⟩), .agg #[.int .i64 a.sq, .int .i64 a.pa, .int .i64 a.at_, .string a.tx]] W fun r w' => ∃ s x e, r = .returned (.tuple #[.string s, .int .i64 x, .int .i64 e]) ∧ P s x e w' := by
  have e5 : ((kd : Int) == 5) = false := by rw [beq_eq_false_iff_ne]; omega
  have e6 : ((kd : Int) == 6) = false := by rw [beq_eq_false_iff_ne]; omega
  have e7 : ((kd : Int) == 7) = false := by rw [beq_eq_false_iff_ne]; omega
  have e8 : ((kd : Int) == 8) = false := by rw [beq_eq_false_iff_ne]; omega
  have e9 : ((kd : Int) == 9) = false := by rw [beq_eq_false_iff_ne]; omega
  have n5 : (kd == 5) = false := by rw [beq_eq_false_iff_ne]; omega
  have n6 : (kd == 6) = false := by rw [beq_eq_false_iff_ne]; omega
  have n7 : (kd == 7) = false := by rw [beq_eq_false_iff_ne]; omega
  have n8 : (kd == 8) = false := by rw [beq_eq_false_iff_ne]; omega
  have n9 : (kd == 9) = false := by rw [beq_eq_false_iff_ne]; omega
  have hk0 : Kept (fun _ => False) W (W.alloc (actO8 a)) := (Kept.refl _ W).alloc _
  obtain ⟨c0, c1, c3⟩ := act_facts8 (heap_alloc_new W (actO8 a))
  have hC2 := hC _ hk0
  obtain ⟨g, hg⟩ : ∃ g, W.heap.size = g := ⟨_, rfl⟩
  have HGS := Lib.hid hg
  simp only [hg] at c0 c1 c3
  have HW := Lib.hid hkk
  obtain ⟨a0, a1, a2, a3⟩ := a
  simp only at c0 c1 c3 hC2 HW
  clear hg hC hk0 hkk
  go_enter Tryd.func11, Tryd.ntmps11
  go_upto_region 1 with fail
  simp only [HGS.out]
  generalize W.alloc _ = w0 at *
  go_wp2_with (first
    | (go_at_call 6; refine (HW.out _).mono ?_; rintro e w' ⟨rfl, hw⟩; have hw2 := hw.symm; clear hw; subst hw2)
    | (go_at_call 25; refine hC2.mono ?_; rintro r w2 ⟨e1, rfl, hP⟩; have HP := Lib.hid hP; clear hP hC2))
  exact bodyPost_ret (v := .tuple #[.string ⟨#[]⟩, .int .i64 0, .int .i64 e1]) (by simp [results, Tryd.results11, go_sem]) rfl ⟨_, _, _, rfl, HP.out⟩
end Go.Proofs.YthbfmdnibijapaaDoor
namespace Go.Proofs.YthbfmdnibijapaaDoor
open Go Go.RowKit

/-- What a commit tells. -/
def CmTold (B most hb : Nat) (L : List NodeS) (cur k : Int) (W : World) (t : ByteArray) (at' : Int) (l : NodeS) (e : Int) (w' : World) : Prop :=
  ((mayB t = true ∧ 0 ≤ at' ∧ at' ≤ 4000) ∧ e = 0 ∧ Hx B most hb (cmt L cur l.sq t at' most).1 (cmt L cur l.sq t at' most).2 k w' ∧ Tr9 (cmt L cur l.sq t at' most).1 ∧ Kept (fun q => q = hb ∨ (B ≤ q ∧ MapAt W q)) W w') ∨
  (¬ (mayB t = true ∧ 0 ≤ at' ∧ at' ≤ 4000) ∧ e = 1 ∧ Kept (fun _ => False) W w')
theorem hxcommit_any {B most hb : Nat} {L : List NodeS} {cur k : Int} {W : World} (h : Hx B most hb L cur k W) (h9 : Tr9 L) (hle : L.length ≤ most) (hm : 2 ≤ most ∧ most ≤ 63) (hB : B ≤ W.heap.size) (t : ByteArray) (at' : Int) (hsz : t.size ≤ 140737488351232) {l : NodeS} (hl : L.getLast? = some l) (hq : l.sq < 1073741824) :
    Calls Tryd.prog 25 #[.pointer (some ⟨hb, 0, none⟩), .string t, .int .i64 at'] W fun r w' => ∃ e : Int, r = .returned (.int .i64 e) ∧ CmTold B most hb L cur k W t at' l e w' := by
  obtain ⟨ad, cp, mb, kv, hqq, hcp, _⟩ := h.q
  have hcu : 0 ≤ idx L cur := by have := h.mt.cu; rw [blank_idx] at this; exact this
  obtain ⟨ic, ec, hic, hec, hecs⟩ := idx_some hcu
  have hsp : mayB (txAt L cur) = true := by
    have e1 : txAt L cur = ec.tx := by rw [← hecs]; exact txAt_eq h.tr hec
    rw [e1]
    exact h9.may ec (List.mem_of_getElem? hec)
  by_cases ht : mayB t = true
  · by_cases ha : 0 ≤ at' ∧ at' ≤ 4000
    · refine (hx_commit h h9 hle hm hB t at' ht ha hl hq).mono ?_
      rintro r w' ⟨rfl, h1, h2, h3⟩
      exact ⟨0, rfl, .inl ⟨⟨ht, ha⟩, rfl, h1, h2, h3⟩⟩
    · have hq2 := hqq
      rw [← blank_len L] at hq2 hcp
      refine (hcommit_at most t at' W hq2 hcp h.mt hsp ht ha).mono ?_
      rintro r w' ⟨rfl, h3⟩
      exact ⟨1, rfl, .inr ⟨fun e => ha e.2, rfl, h3⟩⟩
  · have hs2 := mayB_size hsp
    refine (hcommit_bad most t at' W hqq (by omega) hsz (by simpa using ht)).mono ?_
    rintro r w' ⟨rfl, h3⟩
    exact ⟨1, rfl, .inr ⟨fun e => ht e.1, rfl, h3⟩⟩
end Go.Proofs.YthbfmdnibijapaaDoor
