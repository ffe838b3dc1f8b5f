/-
  THE MOTIONS BY ROWS, of the program: to a row some rows away.
-/
import Derived.Test.YtonenopfdoagcaaDoorLnj0
set_option linter.unusedVariables false
namespace Go.Proofs.YtonenopfdoagcaaDoor
open Go Go.RowKit
section
variable {A : Option Addr} {n c : Nat} {t : List Int} {k m : Nat} {w : World}
theorem a36_any (hA : Rn w A n t) (hr : Runey t) (hk : k ≤ n) (hn : n ≤ 100000) (hm : m ≤ 1000) (hm1 : 1 ≤ m) :
    Calls Tryd.prog 52 #[.slice A n c, .int .i64 k, .int .i64 36, .int .i64 m] w fun e w' => e = .returned (ans (Rw.to t k 36 m) 1) ∧ Kept (fun _ => False) w w' := by
  have hA1 : Rn (w.alloc zeroT) A n t := hA.kept ((Kept.refl (fun _ => False) w).alloc _) (fun _ _ => id)
  have hl := hA.1
  have hb := Rw.beg_le t k
  have he1 := Rw.en_ge t k
  have he2 := Rw.en_le t k (by rw [hA.1]; exact hk)
  rw [hl] at he2
  have hmx : max m 1 = m := by omega
  obtain ⟨p, hp⟩ : ∃ p, m = p + 1 := ⟨m - 1, by omega⟩
  have hp1 : (m : Int) - 1 = p := by omega
  have hp2 : m - 1 = p := by omega
  have hR : Hid (Rw.to t k 36 m = (Rw.dn t k p).map (Rw.en t)) := by
    show _ = _
    unfold Rw.to
    simp [hmx, hp2]
  have cD := down_any A n c t k p (w.alloc zeroT) hA1 hk hn (by omega)
  cases hd : Rw.dn t k p with
  | none =>
    rw [hd] at cD
    have hE : Hid (Rw.to t k 36 m = none) := by show _ = _; rw [hR.out, hd]; rfl
    clear hA hr hA1 hl hmx hR hd hp hp2
    go_enter Tryd.func52, Tryd.ntmps52
    go_wp2_with (go_at_call 60; refine cD.mono ?_; rintro e w' ⟨rfl, rfl⟩)
    refine bodyPost_ret (res_tgt rfl _ w 0 0 rfl) rfl ⟨?_, (Kept.refl _ w).alloc _⟩
    rw [hE.out]
    rfl
  | some x =>
    rw [hd] at cD
    have hxl := (Rw.dn_some t _ k x (by rw [hl]; exact hk) hd).1
    rw [hl] at hxl
    have hx1 := Rw.en_le t x (by rw [hl]; exact hxl)
    rw [hl] at hx1
    have hf := Rw.fst_le t x (by rw [hl]; exact hxl)
    have cX := row_any A n c t x (w.alloc zeroT) hA1 hxl hn
    have cF := first_any A n c t x (w.alloc zeroT) hA1 hr hxl hn
    have cK := row_any A n c t k (w.alloc zeroT) hA1 hk hn
    have hE : Hid (Rw.to t k 36 m = some (Rw.en t x)) := by show _ = _; rw [hR.out, hd]; rfl
    clear hA hr hA1 hl hmx hR hd hp hp2
    generalize Rw.beg t k = b at *
    generalize Rw.en t k = h at *
    generalize Rw.beg t x = bx at *
    generalize Rw.en t x = ex at *
    generalize Rw.fst t x = fx at *
    go_enter Tryd.func52, Tryd.ntmps52
    go_wp2_with (first | (go_at_call 60; refine cD.mono ?_; rintro e w' ⟨rfl, rfl⟩) | (go_at_call 49; refine cX.mono ?_; rintro e w' ⟨rfl, rfl⟩) | (go_at_call 34; refine cF.mono ?_; rintro e w' ⟨rfl, rfl⟩))
    refine bodyPost_ret (res_tgt rfl _ w ex 1 rfl) rfl ⟨?_, (Kept.refl _ w).alloc _⟩
    rw [hE.out]
    rfl
theorem a95_any (hA : Rn w A n t) (hr : Runey t) (hk : k ≤ n) (hn : n ≤ 100000) (hm : m ≤ 1000) (hm1 : 1 ≤ m) :
    Calls Tryd.prog 52 #[.slice A n c, .int .i64 k, .int .i64 95, .int .i64 m] w fun e w' => e = .returned (ans (Rw.to t k 95 m) 2) ∧ Kept (fun _ => False) w w' := by
  have hA1 : Rn (w.alloc zeroT) A n t := hA.kept ((Kept.refl (fun _ => False) w).alloc _) (fun _ _ => id)
  have hl := hA.1
  have hb := Rw.beg_le t k
  have he1 := Rw.en_ge t k
  have he2 := Rw.en_le t k (by rw [hA.1]; exact hk)
  rw [hl] at he2
  have hmx : max m 1 = m := by omega
  obtain ⟨p, hp⟩ : ∃ p, m = p + 1 := ⟨m - 1, by omega⟩
  have hp1 : (m : Int) - 1 = p := by omega
  have hp2 : m - 1 = p := by omega
  have hR : Hid (Rw.to t k 95 m = (Rw.dn t k p).map (Rw.fst t)) := by
    show _ = _
    unfold Rw.to
    simp [hmx, hp2]
  have cD := down_any A n c t k p (w.alloc zeroT) hA1 hk hn (by omega)
  cases hd : Rw.dn t k p with
  | none =>
    rw [hd] at cD
    have hE : Hid (Rw.to t k 95 m = none) := by show _ = _; rw [hR.out, hd]; rfl
    clear hA hr hA1 hl hmx hR hd hp hp2
    go_enter Tryd.func52, Tryd.ntmps52
    go_wp2_with (go_at_call 60; refine cD.mono ?_; rintro e w' ⟨rfl, rfl⟩)
    refine bodyPost_ret (res_tgt rfl _ w 0 0 rfl) rfl ⟨?_, (Kept.refl _ w).alloc _⟩
    rw [hE.out]
    rfl
  | some x =>
    rw [hd] at cD
    have hxl := (Rw.dn_some t _ k x (by rw [hl]; exact hk) hd).1
    rw [hl] at hxl
    have hx1 := Rw.en_le t x (by rw [hl]; exact hxl)
    rw [hl] at hx1
    have hf := Rw.fst_le t x (by rw [hl]; exact hxl)
    have cX := row_any A n c t x (w.alloc zeroT) hA1 hxl hn
    have cF := first_any A n c t x (w.alloc zeroT) hA1 hr hxl hn
    have cK := row_any A n c t k (w.alloc zeroT) hA1 hk hn
    have hE : Hid (Rw.to t k 95 m = some (Rw.fst t x)) := by show _ = _; rw [hR.out, hd]; rfl
    clear hA hr hA1 hl hmx hR hd hp hp2
    generalize Rw.beg t k = b at *
    generalize Rw.en t k = h at *
    generalize Rw.beg t x = bx at *
    generalize Rw.en t x = ex at *
    generalize Rw.fst t x = fx at *
    go_enter Tryd.func52, Tryd.ntmps52
    go_wp2_with (first | (go_at_call 60; refine cD.mono ?_; rintro e w' ⟨rfl, rfl⟩) | (go_at_call 49; refine cX.mono ?_; rintro e w' ⟨rfl, rfl⟩) | (go_at_call 34; refine cF.mono ?_; rintro e w' ⟨rfl, rfl⟩))
    refine bodyPost_ret (res_tgt rfl _ w fx 2 rfl) rfl ⟨?_, (Kept.refl _ w).alloc _⟩
    rw [hE.out]
    rfl
theorem a106_any (hA : Rn w A n t) (hr : Runey t) (hk : k ≤ n) (hn : n ≤ 100000) (hm : m ≤ 1000) (hm1 : 1 ≤ m) :
    Calls Tryd.prog 52 #[.slice A n c, .int .i64 k, .int .i64 106, .int .i64 m] w fun e w' => e = .returned (ans (Rw.to t k 106 m) 2) ∧ Kept (fun _ => False) w w' := by
  have hA1 : Rn (w.alloc zeroT) A n t := hA.kept ((Kept.refl (fun _ => False) w).alloc _) (fun _ _ => id)
  have hl := hA.1
  have hb := Rw.beg_le t k
  have he1 := Rw.en_ge t k
  have he2 := Rw.en_le t k (by rw [hA.1]; exact hk)
  rw [hl] at he2
  have hmx : max m 1 = m := by omega
  have hR : Hid (Rw.to t k 106 m = (Rw.dn t k m).map (fun x => min (Rw.en t x) (x + (k - Rw.beg t k)))) := by
    show _ = _
    unfold Rw.to
    simp [hmx]
  have cD := down_any A n c t k m (w.alloc zeroT) hA1 hk hn (by omega)
  cases hd : Rw.dn t k m with
  | none =>
    rw [hd] at cD
    have hE : Hid (Rw.to t k 106 m = none) := by show _ = _; rw [hR.out, hd]; rfl
    clear hA hr hA1 hl hmx hR hd
    go_enter Tryd.func52, Tryd.ntmps52
    go_wp2_with (go_at_call 60; refine cD.mono ?_; rintro e w' ⟨rfl, rfl⟩)
    refine bodyPost_ret (res_tgt rfl _ w 0 0 rfl) rfl ⟨?_, (Kept.refl _ w).alloc _⟩
    rw [hE.out]
    rfl
  | some x =>
    rw [hd] at cD
    have hxl := (Rw.dn_some t _ k x (by rw [hl]; exact hk) hd).1
    rw [hl] at hxl
    have hx1 := Rw.en_le t x (by rw [hl]; exact hxl)
    rw [hl] at hx1
    have hf := Rw.fst_le t x (by rw [hl]; exact hxl)
    have cX := row_any A n c t x (w.alloc zeroT) hA1 hxl hn
    have cF := first_any A n c t x (w.alloc zeroT) hA1 hr hxl hn
    have cK := row_any A n c t k (w.alloc zeroT) hA1 hk hn
    have hE : Hid (Rw.to t k 106 m = some (min (Rw.en t x) (x + (k - Rw.beg t k)))) := by show _ = _; rw [hR.out, hd]; rfl
    have hv : Hid (((min (Rw.en t x) (x + (k - Rw.beg t k)) : Nat) : Int) = min ((x : Int) + k - (Rw.beg t k : Nat)) (Rw.en t x : Nat)) := by show _ = _; omega
    clear hA hr hA1 hl hmx hR hd
    generalize Rw.beg t k = b at *
    generalize Rw.en t k = h at *
    generalize Rw.beg t x = bx at *
    generalize Rw.en t x = ex at *
    generalize Rw.fst t x = fx at *
    go_enter Tryd.func52, Tryd.ntmps52
    go_wp2_with (go_at_call 60; refine cD.mono ?_; rintro e w' ⟨rfl, rfl⟩)
    refine cX.mono ?_
    rintro e w' ⟨rfl, rfl⟩
    go_wp2_with fail
    refine cK.mono ?_
    rintro e w' ⟨rfl, rfl⟩
    go_wp2_with fail
    refine bodyPost_ret (res_tgt rfl _ w (min ((x : Int) + k - b) ex) 2 rfl) rfl ⟨?_, (Kept.refl _ w).alloc _⟩
    rw [hE.out, ← hv.out]
    rfl
theorem a107_any (hA : Rn w A n t) (hr : Runey t) (hk : k ≤ n) (hn : n ≤ 100000) (hm : m ≤ 1000) (hm1 : 1 ≤ m) :
    Calls Tryd.prog 52 #[.slice A n c, .int .i64 k, .int .i64 107, .int .i64 m] w fun e w' => e = .returned (ans (Rw.to t k 107 m) 2) ∧ Kept (fun _ => False) w w' := by
  have hA1 : Rn (w.alloc zeroT) A n t := hA.kept ((Kept.refl (fun _ => False) w).alloc _) (fun _ _ => id)
  have hl := hA.1
  have hb := Rw.beg_le t k
  have he1 := Rw.en_ge t k
  have he2 := Rw.en_le t k (by rw [hA.1]; exact hk)
  rw [hl] at he2
  have hmx : max m 1 = m := by omega
  have hR : Hid (Rw.to t k 107 m = (Rw.up t k m).map (fun x => min (Rw.en t x) (x + (k - Rw.beg t k)))) := by
    show _ = _
    unfold Rw.to
    simp [hmx]
  have cD := up_any A n c t k m (w.alloc zeroT) hA1 hk hn (by omega) hm1
  cases hd : Rw.up t k m with
  | none =>
    rw [hd] at cD
    have hE : Hid (Rw.to t k 107 m = none) := by show _ = _; rw [hR.out, hd]; rfl
    clear hA hr hA1 hl hmx hR hd
    go_enter Tryd.func52, Tryd.ntmps52
    go_wp2_with (go_at_call 60; refine cD.mono ?_; rintro e w' ⟨rfl, rfl⟩)
    refine bodyPost_ret (res_tgt rfl _ w 0 0 rfl) rfl ⟨?_, (Kept.refl _ w).alloc _⟩
    rw [hE.out]
    rfl
  | some x =>
    rw [hd] at cD
    have hxl := Nat.le_trans (Rw.up_some t _ k x hd).1 hk
    have hx1 := Rw.en_le t x (by rw [hl]; exact hxl)
    rw [hl] at hx1
    have hf := Rw.fst_le t x (by rw [hl]; exact hxl)
    have cX := row_any A n c t x (w.alloc zeroT) hA1 hxl hn
    have cF := first_any A n c t x (w.alloc zeroT) hA1 hr hxl hn
    have cK := row_any A n c t k (w.alloc zeroT) hA1 hk hn
    have hE : Hid (Rw.to t k 107 m = some (min (Rw.en t x) (x + (k - Rw.beg t k)))) := by show _ = _; rw [hR.out, hd]; rfl
    have hv : Hid (((min (Rw.en t x) (x + (k - Rw.beg t k)) : Nat) : Int) = min ((x : Int) + k - (Rw.beg t k : Nat)) (Rw.en t x : Nat)) := by show _ = _; omega
    clear hA hr hA1 hl hmx hR hd
    generalize Rw.beg t k = b at *
    generalize Rw.en t k = h at *
    generalize Rw.beg t x = bx at *
    generalize Rw.en t x = ex at *
    generalize Rw.fst t x = fx at *
    go_enter Tryd.func52, Tryd.ntmps52
    go_wp2_with (go_at_call 60; refine cD.mono ?_; rintro e w' ⟨rfl, rfl⟩)
    refine cX.mono ?_
    rintro e w' ⟨rfl, rfl⟩
    go_wp2_with fail
    refine cK.mono ?_
    rintro e w' ⟨rfl, rfl⟩
    go_wp2_with fail
    refine bodyPost_ret (res_tgt rfl _ w (min ((x : Int) + k - b) ex) 2 rfl) rfl ⟨?_, (Kept.refl _ w).alloc _⟩
    rw [hE.out, ← hv.out]
    rfl
theorem a43_any (hA : Rn w A n t) (hr : Runey t) (hk : k ≤ n) (hn : n ≤ 100000) (hm : m ≤ 1000) (hm1 : 1 ≤ m) :
    Calls Tryd.prog 52 #[.slice A n c, .int .i64 k, .int .i64 43, .int .i64 m] w fun e w' => e = .returned (ans (Rw.to t k 43 m) 2) ∧ Kept (fun _ => False) w w' := by
  have hA1 : Rn (w.alloc zeroT) A n t := hA.kept ((Kept.refl (fun _ => False) w).alloc _) (fun _ _ => id)
  have hl := hA.1
  have hb := Rw.beg_le t k
  have he1 := Rw.en_ge t k
  have he2 := Rw.en_le t k (by rw [hA.1]; exact hk)
  rw [hl] at he2
  have hmx : max m 1 = m := by omega
  have hR : Hid (Rw.to t k 43 m = (Rw.dn t k m).map (Rw.fst t)) := by
    show _ = _
    unfold Rw.to
    simp [hmx]
  have cD := down_any A n c t k m (w.alloc zeroT) hA1 hk hn (by omega)
  cases hd : Rw.dn t k m with
  | none =>
    rw [hd] at cD
    have hE : Hid (Rw.to t k 43 m = none) := by show _ = _; rw [hR.out, hd]; rfl
    clear hA hr hA1 hl hmx hR hd
    go_enter Tryd.func52, Tryd.ntmps52
    go_wp2_with (go_at_call 60; refine cD.mono ?_; rintro e w' ⟨rfl, rfl⟩)
    refine bodyPost_ret (res_tgt rfl _ w 0 0 rfl) rfl ⟨?_, (Kept.refl _ w).alloc _⟩
    rw [hE.out]
    rfl
  | some x =>
    rw [hd] at cD
    have hxl := (Rw.dn_some t _ k x (by rw [hl]; exact hk) hd).1
    rw [hl] at hxl
    have hx1 := Rw.en_le t x (by rw [hl]; exact hxl)
    rw [hl] at hx1
    have hf := Rw.fst_le t x (by rw [hl]; exact hxl)
    have cX := row_any A n c t x (w.alloc zeroT) hA1 hxl hn
    have cF := first_any A n c t x (w.alloc zeroT) hA1 hr hxl hn
    have cK := row_any A n c t k (w.alloc zeroT) hA1 hk hn
    have hE : Hid (Rw.to t k 43 m = some (Rw.fst t x)) := by show _ = _; rw [hR.out, hd]; rfl
    clear hA hr hA1 hl hmx hR hd
    generalize Rw.beg t k = b at *
    generalize Rw.en t k = h at *
    generalize Rw.beg t x = bx at *
    generalize Rw.en t x = ex at *
    generalize Rw.fst t x = fx at *
    go_enter Tryd.func52, Tryd.ntmps52
    go_wp2_with (first | (go_at_call 60; refine cD.mono ?_; rintro e w' ⟨rfl, rfl⟩) | (go_at_call 49; refine cX.mono ?_; rintro e w' ⟨rfl, rfl⟩) | (go_at_call 34; refine cF.mono ?_; rintro e w' ⟨rfl, rfl⟩))
    refine bodyPost_ret (res_tgt rfl _ w fx 2 rfl) rfl ⟨?_, (Kept.refl _ w).alloc _⟩
    rw [hE.out]
    rfl
theorem a45_any (hA : Rn w A n t) (hr : Runey t) (hk : k ≤ n) (hn : n ≤ 100000) (hm : m ≤ 1000) (hm1 : 1 ≤ m) :
    Calls Tryd.prog 52 #[.slice A n c, .int .i64 k, .int .i64 45, .int .i64 m] w fun e w' => e = .returned (ans (Rw.to t k 45 m) 2) ∧ Kept (fun _ => False) w w' := by
  have hA1 : Rn (w.alloc zeroT) A n t := hA.kept ((Kept.refl (fun _ => False) w).alloc _) (fun _ _ => id)
  have hl := hA.1
  have hb := Rw.beg_le t k
  have he1 := Rw.en_ge t k
  have he2 := Rw.en_le t k (by rw [hA.1]; exact hk)
  rw [hl] at he2
  have hmx : max m 1 = m := by omega
  have hR : Hid (Rw.to t k 45 m = (Rw.up t k m).map (Rw.fst t)) := by
    show _ = _
    unfold Rw.to
    simp [hmx]
  have cD := up_any A n c t k m (w.alloc zeroT) hA1 hk hn (by omega) hm1
  cases hd : Rw.up t k m with
  | none =>
    rw [hd] at cD
    have hE : Hid (Rw.to t k 45 m = none) := by show _ = _; rw [hR.out, hd]; rfl
    clear hA hr hA1 hl hmx hR hd
    go_enter Tryd.func52, Tryd.ntmps52
    go_wp2_with (go_at_call 60; refine cD.mono ?_; rintro e w' ⟨rfl, rfl⟩)
    refine bodyPost_ret (res_tgt rfl _ w 0 0 rfl) rfl ⟨?_, (Kept.refl _ w).alloc _⟩
    rw [hE.out]
    rfl
  | some x =>
    rw [hd] at cD
    have hxl := Nat.le_trans (Rw.up_some t _ k x hd).1 hk
    have hx1 := Rw.en_le t x (by rw [hl]; exact hxl)
    rw [hl] at hx1
    have hf := Rw.fst_le t x (by rw [hl]; exact hxl)
    have cX := row_any A n c t x (w.alloc zeroT) hA1 hxl hn
    have cF := first_any A n c t x (w.alloc zeroT) hA1 hr hxl hn
    have cK := row_any A n c t k (w.alloc zeroT) hA1 hk hn
    have hE : Hid (Rw.to t k 45 m = some (Rw.fst t x)) := by show _ = _; rw [hR.out, hd]; rfl
    clear hA hr hA1 hl hmx hR hd
    generalize Rw.beg t k = b at *
    generalize Rw.en t k = h at *
    generalize Rw.beg t x = bx at *
    generalize Rw.en t x = ex at *
    generalize Rw.fst t x = fx at *
    go_enter Tryd.func52, Tryd.ntmps52
    go_wp2_with (first | (go_at_call 60; refine cD.mono ?_; rintro e w' ⟨rfl, rfl⟩) | (go_at_call 49; refine cX.mono ?_; rintro e w' ⟨rfl, rfl⟩) | (go_at_call 34; refine cF.mono ?_; rintro e w' ⟨rfl, rfl⟩))
    refine bodyPost_ret (res_tgt rfl _ w fx 2 rfl) rfl ⟨?_, (Kept.refl _ w).alloc _⟩
    rw [hE.out]
    rfl
theorem numbered_any (hA : Rn w A n t) (hr : Runey t) (hk : k ≤ n) (hn : n ≤ 100000) (hm : m ≤ 1000) :
    Calls Tryd.prog 53 #[.slice A n c, .int .i64 k, .int .i64 m] w fun e w' => e = .returned (tgt (if m = 0 then Rw.fst t k else Rw.nth t m : Nat) 2) ∧ Kept (fun _ => False) w w' := by
  have hA1 : Rn (w.alloc zeroT) A n t := hA.kept ((Kept.refl (fun _ => False) w).alloc _) (fun _ _ => id)
  have hl := hA.1
  by_cases h0 : m = 0
  · subst h0
    have cF := first_any A n c t k (w.alloc zeroT) hA1 hr hk hn
    have hf := Rw.fst_le t k (by rw [hl]; exact hk)
    have he := Rw.en_le t k (by rw [hl]; exact hk)
    rw [if_pos rfl]
    rw [hl] at he
    clear hA hr hA1 hl
    generalize Rw.fst t k = f at *
    go_enter Tryd.func53, Tryd.ntmps53
    go_wp2_with (go_at_call 34; refine cF.mono ?_; rintro e w' ⟨rfl, rfl⟩)
    exact bodyPost_ret (res_tgt1 rfl _ w f 2 rfl) rfl ⟨rfl, (Kept.refl _ w).alloc _⟩
  · rw [if_neg h0]
    obtain ⟨p, hp⟩ : ∃ p, m = p + 1 := ⟨m - 1, by omega⟩
    have hp1 : (m : Int) - 1 = p := by omega
    have hp2 : m - 1 = p := by omega
    have hm1 : 1 ≤ m := by omega
    have hG := Rw.nth_go t m
    rw [hp2] at hG
    have cD := down_any A n c t 0 p (w.alloc zeroT) hA1 (Nat.zero_le _) hn (by omega)
    cases hd : Rw.dn t 0 p with
    | none =>
      rw [hd] at cD hG
      simp only at hG
      have cF := first_any A n c t n (w.alloc zeroT) hA1 hr (Nat.le_refl _) hn
      have hf := Rw.fst_le t n (by rw [hl]; exact Nat.le_refl _)
      have he := Rw.en_le t n (by rw [hl]; exact Nat.le_refl _)
      rw [hl] at he hG
      have hG' : Hid (Rw.nth t m = Rw.fst t n) := hG
      clear hA hr hA1 hl hG hd hp hp2 h0
      generalize Rw.fst t n = f at *
      go_enter Tryd.func53, Tryd.ntmps53
      go_wp2_with (first | (go_at_call 60; refine cD.mono ?_; rintro e w' ⟨rfl, rfl⟩) | (go_at_call 34; refine cF.mono ?_; rintro e w' ⟨rfl, rfl⟩))
      refine bodyPost_ret (res_tgt1 rfl _ w f 2 rfl) rfl ⟨?_, (Kept.refl _ w).alloc _⟩
      rw [hG'.out]
    | some x =>
      rw [hd] at cD hG
      simp only at hG
      have hxl := (Rw.dn_some t _ 0 x (Nat.zero_le _) hd).1
      rw [hl] at hxl
      have cF := first_any A n c t x (w.alloc zeroT) hA1 hr hxl hn
      have hf := Rw.fst_le t x (by rw [hl]; exact hxl)
      have he := Rw.en_le t x (by rw [hl]; exact hxl)
      rw [hl] at he
      have hG' : Hid (Rw.nth t m = Rw.fst t x) := hG
      clear hA hr hA1 hl hG hd hp hp2 h0
      generalize Rw.fst t x = f at *
      go_enter Tryd.func53, Tryd.ntmps53
      go_wp2_with (first | (go_at_call 60; refine cD.mono ?_; rintro e w' ⟨rfl, rfl⟩) | (go_at_call 34; refine cF.mono ?_; rintro e w' ⟨rfl, rfl⟩))
      refine bodyPost_ret (res_tgt1 rfl _ w f 2 rfl) rfl ⟨?_, (Kept.refl _ w).alloc _⟩
      rw [hG'.out]
end
end Go.Proofs.YtonenopfdoagcaaDoor
