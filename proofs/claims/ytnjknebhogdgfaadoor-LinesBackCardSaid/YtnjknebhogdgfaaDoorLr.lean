/-
  THE MOTIONS BY ROWS, of the reference.
-/
import Derived.Test.YtnjknebhogdgfaaDoorLn
set_option linter.unusedVariables false
namespace Go.Proofs.YtnjknebhogdgfaaDoor
open Go Go.RowKit
section
variable {A : Option Addr} {n c : Nat} {t : List Int} {k m : Nat} {w : World}
theorem r104_any (hA : Rn w A n t) (hr : Runey t) (hk : k ≤ n) (hn : n ≤ 100000) (hm : m ≤ 999) :
    Calls Tryd.prog 34 #[.slice A n c, .int .i64 k, .int .i64 104, .int .i64 m] w fun e w' => e = .returned (ans (Rw.to t k 104 m) 0) ∧ Kept (fun _ => False) w w' := by
  have hA1 : Rn (w.alloc zeroT) A n t := hA.kept ((Kept.refl (fun _ => False) w).alloc _) (fun _ _ => id)
  have hl := hA.1
  have hb := Rw.beg_le t k
  have he1 := Rw.en_ge t k
  have he2 := Rw.en_le t k (by rw [hA.1]; exact hk)
  rw [hl] at he2
  have hq : max 1 (m : Int) = ((max m 1 : Nat) : Int) := by omega
  have hq' : max (m : Int) 1 = ((max m 1 : Nat) : Int) := by omega
  have hq1 : 1 ≤ max m 1 ∧ max m 1 ≤ 1000 := by omega
  have cB := rbegin_any A n c t k (w.alloc zeroT) hA1 hk hn
  have cE := rend_any A n c t k (w.alloc zeroT) hA1 hk hn
  have hR : Hid (Rw.to t k 104 m = if max (Rw.beg t k) (k - max m 1) = k then none else some (max (Rw.beg t k) (k - max m 1))) := by
    show _ = _
    unfold Rw.to
    simp
  clear hA hr hA1 hl
  generalize Rw.beg t k = b at *
  generalize Rw.en t k = h at *
  generalize max m 1 = q at *
  obtain ⟨hq1, hq2⟩ := hq1
  by_cases hx : max (b : Int) ((k : Int) - q) = k
  · have hE : Hid (Rw.to t k 104 m = none) := by show _ = _; rw [hR.out, if_pos (by omega)]
    clear hR
    go_enter Tryd.func34, Tryd.ntmps34
    go_wp2_with (go_at_call 40; refine cB.mono ?_; rintro e w' ⟨rfl, rfl⟩)
    refine cE.mono ?_
    rintro e w' ⟨rfl, rfl⟩
    go_wp2_with fail
    refine bodyPost_ret (res_tgt rfl _ w 0 0 rfl) rfl ⟨?_, (Kept.refl _ w).alloc _⟩
    rw [hE.out]
    rfl
  · have hE : Hid (Rw.to t k 104 m = some (max b (k - q))) := by show _ = _; rw [hR.out, if_neg (by omega)]
    have hv : Hid (((max b (k - q) : Nat) : Int) = max (b : Int) ((k : Int) - q)) := by show _ = _; omega
    have h0 : 0 ≤ max (b : Int) ((k : Int) - q) := by omega
    clear hR
    go_enter Tryd.func34, Tryd.ntmps34
    go_wp2_with (go_at_call 40; refine cB.mono ?_; rintro e w' ⟨rfl, rfl⟩)
    refine cE.mono ?_
    rintro e w' ⟨rfl, rfl⟩
    go_wp2_with fail
    refine bodyPost_ret (res_tgt rfl _ w (max (b : Int) ((k : Int) - q)) 0 rfl) rfl ⟨?_, (Kept.refl _ w).alloc _⟩
    rw [hE.out, ← hv.out]
    rfl
theorem r108_any (hA : Rn w A n t) (hr : Runey t) (hk : k ≤ n) (hn : n ≤ 100000) (hm : m ≤ 999) :
    Calls Tryd.prog 34 #[.slice A n c, .int .i64 k, .int .i64 108, .int .i64 m] w fun e w' => e = .returned (ans (Rw.to t k 108 m) 0) ∧ Kept (fun _ => False) w w' := by
  have hA1 : Rn (w.alloc zeroT) A n t := hA.kept ((Kept.refl (fun _ => False) w).alloc _) (fun _ _ => id)
  have hl := hA.1
  have hb := Rw.beg_le t k
  have he1 := Rw.en_ge t k
  have he2 := Rw.en_le t k (by rw [hA.1]; exact hk)
  rw [hl] at he2
  have hq : max 1 (m : Int) = ((max m 1 : Nat) : Int) := by omega
  have hq' : max (m : Int) 1 = ((max m 1 : Nat) : Int) := by omega
  have hq1 : 1 ≤ max m 1 ∧ max m 1 ≤ 1000 := by omega
  have cB := rbegin_any A n c t k (w.alloc zeroT) hA1 hk hn
  have cE := rend_any A n c t k (w.alloc zeroT) hA1 hk hn
  have hR : Hid (Rw.to t k 108 m = if min (Rw.en t k) (k + max m 1) = k then none else some (min (Rw.en t k) (k + max m 1))) := by
    show _ = _
    unfold Rw.to
    simp
  clear hA hr hA1 hl
  generalize Rw.beg t k = b at *
  generalize Rw.en t k = h at *
  generalize max m 1 = q at *
  obtain ⟨hq1, hq2⟩ := hq1
  by_cases hx : min (h : Int) ((k : Int) + q) = k
  · have hE : Hid (Rw.to t k 108 m = none) := by show _ = _; rw [hR.out, if_pos (by omega)]
    clear hR
    go_enter Tryd.func34, Tryd.ntmps34
    go_wp2_with (go_at_call 40; refine cB.mono ?_; rintro e w' ⟨rfl, rfl⟩)
    refine cE.mono ?_
    rintro e w' ⟨rfl, rfl⟩
    go_wp2_with fail
    refine bodyPost_ret (res_tgt rfl _ w 0 0 rfl) rfl ⟨?_, (Kept.refl _ w).alloc _⟩
    rw [hE.out]
    rfl
  · have hE : Hid (Rw.to t k 108 m = some (min h (k + q))) := by show _ = _; rw [hR.out, if_neg (by omega)]
    have hv : Hid (((min h (k + q) : Nat) : Int) = min (h : Int) ((k : Int) + q)) := by show _ = _; omega
    have h0 : 0 ≤ min (h : Int) ((k : Int) + q) := by omega
    clear hR
    go_enter Tryd.func34, Tryd.ntmps34
    go_wp2_with (go_at_call 40; refine cB.mono ?_; rintro e w' ⟨rfl, rfl⟩)
    refine cE.mono ?_
    rintro e w' ⟨rfl, rfl⟩
    go_wp2_with fail
    refine bodyPost_ret (res_tgt rfl _ w (min (h : Int) ((k : Int) + q)) 0 rfl) rfl ⟨?_, (Kept.refl _ w).alloc _⟩
    rw [hE.out, ← hv.out]
    rfl
theorem r48_any (hA : Rn w A n t) (hr : Runey t) (hk : k ≤ n) (hn : n ≤ 100000) (hm : m ≤ 999) :
    Calls Tryd.prog 34 #[.slice A n c, .int .i64 k, .int .i64 48, .int .i64 m] w fun e w' => e = .returned (ans (Rw.to t k 48 m) 0) ∧ Kept (fun _ => False) w w' := by
  have hA1 : Rn (w.alloc zeroT) A n t := hA.kept ((Kept.refl (fun _ => False) w).alloc _) (fun _ _ => id)
  have hl := hA.1
  have hb := Rw.beg_le t k
  have he1 := Rw.en_ge t k
  have he2 := Rw.en_le t k (by rw [hA.1]; exact hk)
  rw [hl] at he2
  have hq : max 1 (m : Int) = ((max m 1 : Nat) : Int) := by omega
  have hq' : max (m : Int) 1 = ((max m 1 : Nat) : Int) := by omega
  have hq1 : 1 ≤ max m 1 ∧ max m 1 ≤ 1000 := by omega
  have cB := rbegin_any A n c t k (w.alloc zeroT) hA1 hk hn
  have cE := rend_any A n c t k (w.alloc zeroT) hA1 hk hn
  have hE : Hid (Rw.to t k 48 m = some (Rw.beg t k)) := rfl
  clear hA hr hA1 hl
  generalize Rw.beg t k = b at *
  generalize Rw.en t k = h at *
  generalize max m 1 = q at *
  obtain ⟨hq1, hq2⟩ := hq1
  · skip
    go_enter Tryd.func34, Tryd.ntmps34
    go_wp2_with (go_at_call 40; refine cB.mono ?_; rintro e w' ⟨rfl, rfl⟩)
    refine cE.mono ?_
    rintro e w' ⟨rfl, rfl⟩
    go_wp2_with fail
    refine bodyPost_ret (res_tgt rfl _ w b 0 rfl) rfl ⟨?_, (Kept.refl _ w).alloc _⟩
    rw [hE.out]
    rfl
theorem r94_any (hA : Rn w A n t) (hr : Runey t) (hk : k ≤ n) (hn : n ≤ 100000) (hm : m ≤ 999) :
    Calls Tryd.prog 34 #[.slice A n c, .int .i64 k, .int .i64 94, .int .i64 m] w fun e w' => e = .returned (ans (Rw.to t k 94 m) 0) ∧ Kept (fun _ => False) w w' := by
  have hA1 : Rn (w.alloc zeroT) A n t := hA.kept ((Kept.refl (fun _ => False) w).alloc _) (fun _ _ => id)
  have hl := hA.1
  have hb := Rw.beg_le t k
  have he1 := Rw.en_ge t k
  have he2 := Rw.en_le t k (by rw [hA.1]; exact hk)
  rw [hl] at he2
  have hq : max 1 (m : Int) = ((max m 1 : Nat) : Int) := by omega
  have hq' : max (m : Int) 1 = ((max m 1 : Nat) : Int) := by omega
  have hq1 : 1 ≤ max m 1 ∧ max m 1 ≤ 1000 := by omega
  have cB := rbegin_any A n c t k (w.alloc zeroT) hA1 hk hn
  have cE := rend_any A n c t k (w.alloc zeroT) hA1 hk hn
  have hE : Hid (Rw.to t k 94 m = some (Rw.fst t k)) := rfl
  have cF := rfirst_any A n c t k (w.alloc zeroT) hA1 hr hk hn
  have hf := Rw.fst_le t k (by rw [hl]; exact hk)
  clear hA hr hA1 hl
  generalize Rw.beg t k = b at *
  generalize Rw.en t k = h at *
  generalize Rw.fst t k = f at *
  generalize max m 1 = q at *
  obtain ⟨hq1, hq2⟩ := hq1
  · skip
    go_enter Tryd.func34, Tryd.ntmps34
    go_wp2_with (go_at_call 40; refine cB.mono ?_; rintro e w' ⟨rfl, rfl⟩)
    refine cE.mono ?_
    rintro e w' ⟨rfl, rfl⟩
    go_wp2_with (go_at_call 25; refine cF.mono ?_; rintro e w' ⟨rfl, rfl⟩)
    refine bodyPost_ret (res_tgt rfl _ w f 0 rfl) rfl ⟨?_, (Kept.refl _ w).alloc _⟩
    rw [hE.out]
    rfl
theorem r36_any (hA : Rn w A n t) (hr : Runey t) (hk : k ≤ n) (hn : n ≤ 100000) (hm : m ≤ 999) :
    Calls Tryd.prog 34 #[.slice A n c, .int .i64 k, .int .i64 36, .int .i64 m] w fun e w' => e = .returned (ans (Rw.to t k 36 m) 1) ∧ Kept (fun _ => False) w w' := by
  have hA1 : Rn (w.alloc zeroT) A n t := hA.kept ((Kept.refl (fun _ => False) w).alloc _) (fun _ _ => id)
  have hl := hA.1
  have hb := Rw.beg_le t k
  have he1 := Rw.en_ge t k
  have he2 := Rw.en_le t k (by rw [hA.1]; exact hk)
  rw [hl] at he2
  have hq : max 1 (m : Int) = ((max m 1 : Nat) : Int) := by omega
  have hq' : max (m : Int) 1 = ((max m 1 : Nat) : Int) := by omega
  have hq1 : 1 ≤ max m 1 ∧ max m 1 ≤ 1000 := by omega
  have cB := rbegin_any A n c t k (w.alloc zeroT) hA1 hk hn
  have cE := rend_any A n c t k (w.alloc zeroT) hA1 hk hn
  generalize hqd : max m 1 = q at *
  obtain ⟨hq1, hq2⟩ := hq1
  obtain ⟨p, hp⟩ : ∃ p, q = p + 1 := ⟨q - 1, by omega⟩
  have hp1 : (q : Int) - 1 = p := by omega
  have hp2 : q - 1 = p := by omega
  have hR : Hid (Rw.to t k 36 m = (Rw.dn t k p).map (Rw.en t)) := by
    show _ = _
    unfold Rw.to
    simp [hqd, hp2]
  have cD := rdown_any A n c t k p (w.alloc zeroT) hA1 hk hn (by omega)
  cases hd : Rw.dn t k p with
  | none =>
    rw [hd] at cD
    unfold rowOf at cD
    simp only at cD
    have hE : Hid (Rw.to t k 36 m = none) := by show _ = _; rw [hR.out, hd]; rfl
    clear hA hr hA1 hl hR hd hqd hp hp2
    generalize Rw.beg t k = b at *
    generalize Rw.en t k = h at *
    go_enter Tryd.func34, Tryd.ntmps34
    go_wp2_with (go_at_call 40; refine cB.mono ?_; rintro e w' ⟨rfl, rfl⟩)
    refine cE.mono ?_
    rintro e w' ⟨rfl, rfl⟩
    go_wp2_with (go_at_call 48; refine cD.mono ?_; rintro e w' ⟨rfl, rfl⟩)
    refine bodyPost_ret (res_tgt rfl _ w 0 0 rfl) rfl ⟨?_, (Kept.refl _ w).alloc _⟩
    rw [hE.out]
    rfl
  | some x =>
    rw [hd] at cD
    unfold rowOf at cD
    simp only at cD
    have hxl : x ≤ n := by rw [← hl]; exact (Rw.dn_some t _ k x (by rw [hl]; exact hk) hd).1
    have hx0 := Rw.en_ge t x
    have hx1 := Rw.en_le t x (by rw [hl]; exact hxl)
    rw [hl] at hx1
    have hf := Rw.fst_le t x (by rw [hl]; exact hxl)
    have cX := rend_any A n c t x (w.alloc zeroT) hA1 hxl hn
    have cF := rfirst_any A n c t x (w.alloc zeroT) hA1 hr hxl hn
    have hE : Hid (Rw.to t k 36 m = some (Rw.en t x)) := by show _ = _; rw [hR.out, hd]; rfl
    clear hA hr hA1 hl hR hd hqd hp hp2
    generalize Rw.beg t k = b at *
    generalize Rw.en t k = h at *
    generalize Rw.en t x = ex at *
    generalize Rw.fst t x = fx at *
    go_enter Tryd.func34, Tryd.ntmps34
    go_wp2_with (go_at_call 40; refine cB.mono ?_; rintro e w' ⟨rfl, rfl⟩)
    refine cE.mono ?_
    rintro e w' ⟨rfl, rfl⟩
    go_wp2_with (go_at_call 48; refine cD.mono ?_; rintro e w' ⟨rfl, rfl⟩)
    refine cX.mono ?_
    rintro e w' ⟨rfl, rfl⟩
    go_wp2_with fail
    refine bodyPost_ret (res_tgt rfl _ w ex 1 rfl) rfl ⟨?_, (Kept.refl _ w).alloc _⟩
    rw [hE.out]
    rfl
theorem r95_any (hA : Rn w A n t) (hr : Runey t) (hk : k ≤ n) (hn : n ≤ 100000) (hm : m ≤ 999) :
    Calls Tryd.prog 34 #[.slice A n c, .int .i64 k, .int .i64 95, .int .i64 m] w fun e w' => e = .returned (ans (Rw.to t k 95 m) 2) ∧ Kept (fun _ => False) w w' := by
  have hA1 : Rn (w.alloc zeroT) A n t := hA.kept ((Kept.refl (fun _ => False) w).alloc _) (fun _ _ => id)
  have hl := hA.1
  have hb := Rw.beg_le t k
  have he1 := Rw.en_ge t k
  have he2 := Rw.en_le t k (by rw [hA.1]; exact hk)
  rw [hl] at he2
  have hq : max 1 (m : Int) = ((max m 1 : Nat) : Int) := by omega
  have hq' : max (m : Int) 1 = ((max m 1 : Nat) : Int) := by omega
  have hq1 : 1 ≤ max m 1 ∧ max m 1 ≤ 1000 := by omega
  have cB := rbegin_any A n c t k (w.alloc zeroT) hA1 hk hn
  have cE := rend_any A n c t k (w.alloc zeroT) hA1 hk hn
  generalize hqd : max m 1 = q at *
  obtain ⟨hq1, hq2⟩ := hq1
  obtain ⟨p, hp⟩ : ∃ p, q = p + 1 := ⟨q - 1, by omega⟩
  have hp1 : (q : Int) - 1 = p := by omega
  have hp2 : q - 1 = p := by omega
  have hR : Hid (Rw.to t k 95 m = (Rw.dn t k p).map (Rw.fst t)) := by
    show _ = _
    unfold Rw.to
    simp [hqd, hp2]
  have cD := rdown_any A n c t k p (w.alloc zeroT) hA1 hk hn (by omega)
  cases hd : Rw.dn t k p with
  | none =>
    rw [hd] at cD
    unfold rowOf at cD
    simp only at cD
    have hE : Hid (Rw.to t k 95 m = none) := by show _ = _; rw [hR.out, hd]; rfl
    clear hA hr hA1 hl hR hd hqd hp hp2
    generalize Rw.beg t k = b at *
    generalize Rw.en t k = h at *
    go_enter Tryd.func34, Tryd.ntmps34
    go_wp2_with (go_at_call 40; refine cB.mono ?_; rintro e w' ⟨rfl, rfl⟩)
    refine cE.mono ?_
    rintro e w' ⟨rfl, rfl⟩
    go_wp2_with (go_at_call 48; refine cD.mono ?_; rintro e w' ⟨rfl, rfl⟩)
    refine bodyPost_ret (res_tgt rfl _ w 0 0 rfl) rfl ⟨?_, (Kept.refl _ w).alloc _⟩
    rw [hE.out]
    rfl
  | some x =>
    rw [hd] at cD
    unfold rowOf at cD
    simp only at cD
    have hxl : x ≤ n := by rw [← hl]; exact (Rw.dn_some t _ k x (by rw [hl]; exact hk) hd).1
    have hx0 := Rw.en_ge t x
    have hx1 := Rw.en_le t x (by rw [hl]; exact hxl)
    rw [hl] at hx1
    have hf := Rw.fst_le t x (by rw [hl]; exact hxl)
    have cX := rend_any A n c t x (w.alloc zeroT) hA1 hxl hn
    have cF := rfirst_any A n c t x (w.alloc zeroT) hA1 hr hxl hn
    have hE : Hid (Rw.to t k 95 m = some (Rw.fst t x)) := by show _ = _; rw [hR.out, hd]; rfl
    clear hA hr hA1 hl hR hd hqd hp hp2
    generalize Rw.beg t k = b at *
    generalize Rw.en t k = h at *
    generalize Rw.en t x = ex at *
    generalize Rw.fst t x = fx at *
    go_enter Tryd.func34, Tryd.ntmps34
    go_wp2_with (go_at_call 40; refine cB.mono ?_; rintro e w' ⟨rfl, rfl⟩)
    refine cE.mono ?_
    rintro e w' ⟨rfl, rfl⟩
    go_wp2_with (go_at_call 48; refine cD.mono ?_; rintro e w' ⟨rfl, rfl⟩)
    refine cF.mono ?_
    rintro e w' ⟨rfl, rfl⟩
    go_wp2_with fail
    refine bodyPost_ret (res_tgt rfl _ w fx 2 rfl) rfl ⟨?_, (Kept.refl _ w).alloc _⟩
    rw [hE.out]
    rfl
theorem r106_any (hA : Rn w A n t) (hr : Runey t) (hk : k ≤ n) (hn : n ≤ 100000) (hm : m ≤ 999) :
    Calls Tryd.prog 34 #[.slice A n c, .int .i64 k, .int .i64 106, .int .i64 m] w fun e w' => e = .returned (ans (Rw.to t k 106 m) 2) ∧ Kept (fun _ => False) w w' := by
  have hA1 : Rn (w.alloc zeroT) A n t := hA.kept ((Kept.refl (fun _ => False) w).alloc _) (fun _ _ => id)
  have hl := hA.1
  have hb := Rw.beg_le t k
  have he1 := Rw.en_ge t k
  have he2 := Rw.en_le t k (by rw [hA.1]; exact hk)
  rw [hl] at he2
  have hq : max 1 (m : Int) = ((max m 1 : Nat) : Int) := by omega
  have hq' : max (m : Int) 1 = ((max m 1 : Nat) : Int) := by omega
  have hq1 : 1 ≤ max m 1 ∧ max m 1 ≤ 1000 := by omega
  have cB := rbegin_any A n c t k (w.alloc zeroT) hA1 hk hn
  have cE := rend_any A n c t k (w.alloc zeroT) hA1 hk hn
  generalize hqd : max m 1 = q at *
  obtain ⟨hq1, hq2⟩ := hq1
  have hR : Hid (Rw.to t k 106 m = (Rw.dn t k q).map (fun x => min (Rw.en t x) (x + (k - Rw.beg t k)))) := by
    show _ = _
    unfold Rw.to
    simp [hqd]
  have cD := rdown_any A n c t k q (w.alloc zeroT) hA1 hk hn (by omega)
  cases hd : Rw.dn t k q with
  | none =>
    rw [hd] at cD
    unfold rowOf at cD
    simp only at cD
    have hE : Hid (Rw.to t k 106 m = none) := by show _ = _; rw [hR.out, hd]; rfl
    clear hA hr hA1 hl hR hd hqd
    generalize Rw.beg t k = b at *
    generalize Rw.en t k = h at *
    go_enter Tryd.func34, Tryd.ntmps34
    go_wp2_with (go_at_call 40; refine cB.mono ?_; rintro e w' ⟨rfl, rfl⟩)
    refine cE.mono ?_
    rintro e w' ⟨rfl, rfl⟩
    go_wp2_with (go_at_call 48; refine cD.mono ?_; rintro e w' ⟨rfl, rfl⟩)
    refine bodyPost_ret (res_tgt rfl _ w 0 0 rfl) rfl ⟨?_, (Kept.refl _ w).alloc _⟩
    rw [hE.out]
    rfl
  | some x =>
    rw [hd] at cD
    unfold rowOf at cD
    simp only at cD
    have hxl : x ≤ n := by rw [← hl]; exact (Rw.dn_some t _ k x (by rw [hl]; exact hk) hd).1
    have hx0 := Rw.en_ge t x
    have hx1 := Rw.en_le t x (by rw [hl]; exact hxl)
    rw [hl] at hx1
    have hf := Rw.fst_le t x (by rw [hl]; exact hxl)
    have cX := rend_any A n c t x (w.alloc zeroT) hA1 hxl hn
    have cF := rfirst_any A n c t x (w.alloc zeroT) hA1 hr hxl hn
    have hE : Hid (Rw.to t k 106 m = some (min (Rw.en t x) (x + (k - Rw.beg t k)))) := by show _ = _; rw [hR.out, hd]; rfl
    have hv : Hid (((min (Rw.en t x) (x + (k - Rw.beg t k)) : Nat) : Int) = min (Rw.en t x : Int) ((x : Int) + k - (Rw.beg t k : Nat))) := by show _ = _; omega
    have h0 : 0 ≤ min (Rw.en t x : Int) ((x : Int) + k - (Rw.beg t k : Nat)) := by omega
    clear hA hr hA1 hl hR hd hqd
    generalize Rw.beg t k = b at *
    generalize Rw.en t k = h at *
    generalize Rw.en t x = ex at *
    generalize Rw.fst t x = fx at *
    go_enter Tryd.func34, Tryd.ntmps34
    go_wp2_with (go_at_call 40; refine cB.mono ?_; rintro e w' ⟨rfl, rfl⟩)
    refine cE.mono ?_
    rintro e w' ⟨rfl, rfl⟩
    go_wp2_with (go_at_call 48; refine cD.mono ?_; rintro e w' ⟨rfl, rfl⟩)
    refine cX.mono ?_
    rintro e w' ⟨rfl, rfl⟩
    go_wp2_with fail
    refine bodyPost_ret (res_tgt rfl _ w (min (ex : Int) ((x : Int) + k - b)) 2 rfl) rfl ⟨?_, (Kept.refl _ w).alloc _⟩
    rw [hE.out, ← hv.out]
    rfl
theorem r107_any (hA : Rn w A n t) (hr : Runey t) (hk : k ≤ n) (hn : n ≤ 100000) (hm : m ≤ 999) :
    Calls Tryd.prog 34 #[.slice A n c, .int .i64 k, .int .i64 107, .int .i64 m] w fun e w' => e = .returned (ans (Rw.to t k 107 m) 2) ∧ Kept (fun _ => False) w w' := by
  have hA1 : Rn (w.alloc zeroT) A n t := hA.kept ((Kept.refl (fun _ => False) w).alloc _) (fun _ _ => id)
  have hl := hA.1
  have hb := Rw.beg_le t k
  have he1 := Rw.en_ge t k
  have he2 := Rw.en_le t k (by rw [hA.1]; exact hk)
  rw [hl] at he2
  have hq : max 1 (m : Int) = ((max m 1 : Nat) : Int) := by omega
  have hq' : max (m : Int) 1 = ((max m 1 : Nat) : Int) := by omega
  have hq1 : 1 ≤ max m 1 ∧ max m 1 ≤ 1000 := by omega
  have cB := rbegin_any A n c t k (w.alloc zeroT) hA1 hk hn
  have cE := rend_any A n c t k (w.alloc zeroT) hA1 hk hn
  generalize hqd : max m 1 = q at *
  obtain ⟨hq1, hq2⟩ := hq1
  have hR : Hid (Rw.to t k 107 m = (Rw.up t k q).map (fun x => min (Rw.en t x) (x + (k - Rw.beg t k)))) := by
    show _ = _
    unfold Rw.to
    simp [hqd]
  have cD := rup_any A n c t k q (w.alloc zeroT) hA1 hk hn (by omega) hq1
  cases hd : Rw.up t k q with
  | none =>
    rw [hd] at cD
    unfold rowOf at cD
    simp only at cD
    have hE : Hid (Rw.to t k 107 m = none) := by show _ = _; rw [hR.out, hd]; rfl
    clear hA hr hA1 hl hR hd hqd
    generalize Rw.beg t k = b at *
    generalize Rw.en t k = h at *
    go_enter Tryd.func34, Tryd.ntmps34
    go_wp2_with (go_at_call 40; refine cB.mono ?_; rintro e w' ⟨rfl, rfl⟩)
    refine cE.mono ?_
    rintro e w' ⟨rfl, rfl⟩
    go_wp2_with (go_at_call 48; refine cD.mono ?_; rintro e w' ⟨rfl, rfl⟩)
    refine bodyPost_ret (res_tgt rfl _ w 0 0 rfl) rfl ⟨?_, (Kept.refl _ w).alloc _⟩
    rw [hE.out]
    rfl
  | some x =>
    rw [hd] at cD
    unfold rowOf at cD
    simp only at cD
    have hxl : x ≤ n := Nat.le_trans (Rw.up_some t _ k x hd).1 hk
    have hx0 := Rw.en_ge t x
    have hx1 := Rw.en_le t x (by rw [hl]; exact hxl)
    rw [hl] at hx1
    have hf := Rw.fst_le t x (by rw [hl]; exact hxl)
    have cX := rend_any A n c t x (w.alloc zeroT) hA1 hxl hn
    have cF := rfirst_any A n c t x (w.alloc zeroT) hA1 hr hxl hn
    have hE : Hid (Rw.to t k 107 m = some (min (Rw.en t x) (x + (k - Rw.beg t k)))) := by show _ = _; rw [hR.out, hd]; rfl
    have hv : Hid (((min (Rw.en t x) (x + (k - Rw.beg t k)) : Nat) : Int) = min (Rw.en t x : Int) ((x : Int) + k - (Rw.beg t k : Nat))) := by show _ = _; omega
    have h0 : 0 ≤ min (Rw.en t x : Int) ((x : Int) + k - (Rw.beg t k : Nat)) := by omega
    clear hA hr hA1 hl hR hd hqd
    generalize Rw.beg t k = b at *
    generalize Rw.en t k = h at *
    generalize Rw.en t x = ex at *
    generalize Rw.fst t x = fx at *
    go_enter Tryd.func34, Tryd.ntmps34
    go_wp2_with (go_at_call 40; refine cB.mono ?_; rintro e w' ⟨rfl, rfl⟩)
    refine cE.mono ?_
    rintro e w' ⟨rfl, rfl⟩
    go_wp2_with (go_at_call 48; refine cD.mono ?_; rintro e w' ⟨rfl, rfl⟩)
    refine cX.mono ?_
    rintro e w' ⟨rfl, rfl⟩
    go_wp2_with fail
    refine bodyPost_ret (res_tgt rfl _ w (min (ex : Int) ((x : Int) + k - b)) 2 rfl) rfl ⟨?_, (Kept.refl _ w).alloc _⟩
    rw [hE.out, ← hv.out]
    rfl
theorem r43_any (hA : Rn w A n t) (hr : Runey t) (hk : k ≤ n) (hn : n ≤ 100000) (hm : m ≤ 999) :
    Calls Tryd.prog 34 #[.slice A n c, .int .i64 k, .int .i64 43, .int .i64 m] w fun e w' => e = .returned (ans (Rw.to t k 43 m) 2) ∧ Kept (fun _ => False) w w' := by
  have hA1 : Rn (w.alloc zeroT) A n t := hA.kept ((Kept.refl (fun _ => False) w).alloc _) (fun _ _ => id)
  have hl := hA.1
  have hb := Rw.beg_le t k
  have he1 := Rw.en_ge t k
  have he2 := Rw.en_le t k (by rw [hA.1]; exact hk)
  rw [hl] at he2
  have hq : max 1 (m : Int) = ((max m 1 : Nat) : Int) := by omega
  have hq' : max (m : Int) 1 = ((max m 1 : Nat) : Int) := by omega
  have hq1 : 1 ≤ max m 1 ∧ max m 1 ≤ 1000 := by omega
  have cB := rbegin_any A n c t k (w.alloc zeroT) hA1 hk hn
  have cE := rend_any A n c t k (w.alloc zeroT) hA1 hk hn
  generalize hqd : max m 1 = q at *
  obtain ⟨hq1, hq2⟩ := hq1
  have hR : Hid (Rw.to t k 43 m = (Rw.dn t k q).map (Rw.fst t)) := by
    show _ = _
    unfold Rw.to
    simp [hqd]
  have cD := rdown_any A n c t k q (w.alloc zeroT) hA1 hk hn (by omega)
  cases hd : Rw.dn t k q with
  | none =>
    rw [hd] at cD
    unfold rowOf at cD
    simp only at cD
    have hE : Hid (Rw.to t k 43 m = none) := by show _ = _; rw [hR.out, hd]; rfl
    clear hA hr hA1 hl hR hd hqd
    generalize Rw.beg t k = b at *
    generalize Rw.en t k = h at *
    go_enter Tryd.func34, Tryd.ntmps34
    go_wp2_with (go_at_call 40; refine cB.mono ?_; rintro e w' ⟨rfl, rfl⟩)
    refine cE.mono ?_
    rintro e w' ⟨rfl, rfl⟩
    go_wp2_with (go_at_call 48; refine cD.mono ?_; rintro e w' ⟨rfl, rfl⟩)
    refine bodyPost_ret (res_tgt rfl _ w 0 0 rfl) rfl ⟨?_, (Kept.refl _ w).alloc _⟩
    rw [hE.out]
    rfl
  | some x =>
    rw [hd] at cD
    unfold rowOf at cD
    simp only at cD
    have hxl : x ≤ n := by rw [← hl]; exact (Rw.dn_some t _ k x (by rw [hl]; exact hk) hd).1
    have hx0 := Rw.en_ge t x
    have hx1 := Rw.en_le t x (by rw [hl]; exact hxl)
    rw [hl] at hx1
    have hf := Rw.fst_le t x (by rw [hl]; exact hxl)
    have cX := rend_any A n c t x (w.alloc zeroT) hA1 hxl hn
    have cF := rfirst_any A n c t x (w.alloc zeroT) hA1 hr hxl hn
    have hE : Hid (Rw.to t k 43 m = some (Rw.fst t x)) := by show _ = _; rw [hR.out, hd]; rfl
    clear hA hr hA1 hl hR hd hqd
    generalize Rw.beg t k = b at *
    generalize Rw.en t k = h at *
    generalize Rw.en t x = ex at *
    generalize Rw.fst t x = fx at *
    go_enter Tryd.func34, Tryd.ntmps34
    go_wp2_with (go_at_call 40; refine cB.mono ?_; rintro e w' ⟨rfl, rfl⟩)
    refine cE.mono ?_
    rintro e w' ⟨rfl, rfl⟩
    go_wp2_with (go_at_call 48; refine cD.mono ?_; rintro e w' ⟨rfl, rfl⟩)
    refine cF.mono ?_
    rintro e w' ⟨rfl, rfl⟩
    go_wp2_with fail
    refine bodyPost_ret (res_tgt rfl _ w fx 2 rfl) rfl ⟨?_, (Kept.refl _ w).alloc _⟩
    rw [hE.out]
    rfl
theorem r45_any (hA : Rn w A n t) (hr : Runey t) (hk : k ≤ n) (hn : n ≤ 100000) (hm : m ≤ 999) :
    Calls Tryd.prog 34 #[.slice A n c, .int .i64 k, .int .i64 45, .int .i64 m] w fun e w' => e = .returned (ans (Rw.to t k 45 m) 2) ∧ Kept (fun _ => False) w w' := by
  have hA1 : Rn (w.alloc zeroT) A n t := hA.kept ((Kept.refl (fun _ => False) w).alloc _) (fun _ _ => id)
  have hl := hA.1
  have hb := Rw.beg_le t k
  have he1 := Rw.en_ge t k
  have he2 := Rw.en_le t k (by rw [hA.1]; exact hk)
  rw [hl] at he2
  have hq : max 1 (m : Int) = ((max m 1 : Nat) : Int) := by omega
  have hq' : max (m : Int) 1 = ((max m 1 : Nat) : Int) := by omega
  have hq1 : 1 ≤ max m 1 ∧ max m 1 ≤ 1000 := by omega
  have cB := rbegin_any A n c t k (w.alloc zeroT) hA1 hk hn
  have cE := rend_any A n c t k (w.alloc zeroT) hA1 hk hn
  generalize hqd : max m 1 = q at *
  obtain ⟨hq1, hq2⟩ := hq1
  have hR : Hid (Rw.to t k 45 m = (Rw.up t k q).map (Rw.fst t)) := by
    show _ = _
    unfold Rw.to
    simp [hqd]
  have cD := rup_any A n c t k q (w.alloc zeroT) hA1 hk hn (by omega) hq1
  cases hd : Rw.up t k q with
  | none =>
    rw [hd] at cD
    unfold rowOf at cD
    simp only at cD
    have hE : Hid (Rw.to t k 45 m = none) := by show _ = _; rw [hR.out, hd]; rfl
    clear hA hr hA1 hl hR hd hqd
    generalize Rw.beg t k = b at *
    generalize Rw.en t k = h at *
    go_enter Tryd.func34, Tryd.ntmps34
    go_wp2_with (go_at_call 40; refine cB.mono ?_; rintro e w' ⟨rfl, rfl⟩)
    refine cE.mono ?_
    rintro e w' ⟨rfl, rfl⟩
    go_wp2_with (go_at_call 48; refine cD.mono ?_; rintro e w' ⟨rfl, rfl⟩)
    refine bodyPost_ret (res_tgt rfl _ w 0 0 rfl) rfl ⟨?_, (Kept.refl _ w).alloc _⟩
    rw [hE.out]
    rfl
  | some x =>
    rw [hd] at cD
    unfold rowOf at cD
    simp only at cD
    have hxl : x ≤ n := Nat.le_trans (Rw.up_some t _ k x hd).1 hk
    have hx0 := Rw.en_ge t x
    have hx1 := Rw.en_le t x (by rw [hl]; exact hxl)
    rw [hl] at hx1
    have hf := Rw.fst_le t x (by rw [hl]; exact hxl)
    have cX := rend_any A n c t x (w.alloc zeroT) hA1 hxl hn
    have cF := rfirst_any A n c t x (w.alloc zeroT) hA1 hr hxl hn
    have hE : Hid (Rw.to t k 45 m = some (Rw.fst t x)) := by show _ = _; rw [hR.out, hd]; rfl
    clear hA hr hA1 hl hR hd hqd
    generalize Rw.beg t k = b at *
    generalize Rw.en t k = h at *
    generalize Rw.en t x = ex at *
    generalize Rw.fst t x = fx at *
    go_enter Tryd.func34, Tryd.ntmps34
    go_wp2_with (go_at_call 40; refine cB.mono ?_; rintro e w' ⟨rfl, rfl⟩)
    refine cE.mono ?_
    rintro e w' ⟨rfl, rfl⟩
    go_wp2_with (go_at_call 48; refine cD.mono ?_; rintro e w' ⟨rfl, rfl⟩)
    refine cF.mono ?_
    rintro e w' ⟨rfl, rfl⟩
    go_wp2_with fail
    refine bodyPost_ret (res_tgt rfl _ w fx 2 rfl) rfl ⟨?_, (Kept.refl _ w).alloc _⟩
    rw [hE.out]
    rfl
end
end Go.Proofs.YtnjknebhogdgfaaDoor
