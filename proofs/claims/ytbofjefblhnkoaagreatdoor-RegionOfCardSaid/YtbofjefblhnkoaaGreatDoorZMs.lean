/-
  THE MOTIONS BY ROWS, of the reference.
  THE MOTIONS BY ROWS, of the reference: G and gg; and all of them.
  MOTIONS: the reference's Go, by rows.
  MOTIONS: any motion, of whatever arguments, is the reference's.
  MOTIONS: one motion against the reference's, whatever the arguments.
-/
import Derived.Test.YtbofjefblhnkoaaGreatDoorZMh
import Derived.Test.YtbofjefblhnkoaaGreatDoorZMl
import Derived.Test.YtbofjefblhnkoaaGreatDoorZMm
import Derived.Test.YtbofjefblhnkoaaGreatDoorZMn
import Derived.Test.YtbofjefblhnkoaaGreatDoorZMp
import Derived.Test.YtbofjefblhnkoaaGreatDoorZMq
import Derived.Test.YtbofjefblhnkoaaGreatDoorZMr
set_option linter.unusedVariables false
namespace Go.Proofs.YtbofjefblhnkoaaGreatDoor
open Go Go.RowKit
section
variable {A : Option Addr} {n c : Nat} {t : List Int} {k m : Nat} {w : World}
theorem r104_any (hA : Rn w A n t) (hr : Runey t) (hk : k ≤ n) (hn : n ≤ 100000) (hm : m ≤ 999) :
    Calls Tryz.prog 32 #[.slice A n c, .int .i64 k, .int .i64 104, .int .i64 m] w fun e w' => e = .returned (ans (Rw.to t k 104 m) 0) ∧ Kept (fun _ => False) w w' := by
  have hA1 : Rn (w.alloc zeroT) A n t := hA.kept ((Kept.refl (fun _ => False) w).alloc _) (fun _ _ => id)
  have hl := hA.1
  have hb := Rw.beg_le t k
  have he1 := Rw.en_ge t k
  have he2 := Rw.en_le t k (by rw [hA.1]; exact hk)
  rw [hl] at he2
  have hq : max 1 (m : Int) = ((max m 1 : Nat) : Int) := by omega
  have hq' : max (m : Int) 1 = ((max m 1 : Nat) : Int) := by omega
  have hq1 : 1 ≤ max m 1 ∧ max m 1 ≤ 1000 := by omega
  have cB := rbegin_any A n c t k (w.alloc zeroT) hA1 hk hn
  have cE := rend_any A n c t k (w.alloc zeroT) hA1 hk hn
  have hR : Hid (Rw.to t k 104 m = if max (Rw.beg t k) (k - max m 1) = k then none else some (max (Rw.beg t k) (k - max m 1))) := by
    show _ = _
    unfold Rw.to
    simp
  clear hA hr hA1 hl
  generalize Rw.beg t k = b at *
  generalize Rw.en t k = h at *
  generalize max m 1 = q at *
  obtain ⟨hq1, hq2⟩ := hq1
  by_cases hx : max (b : Int) ((k : Int) - q) = k
  · have hE : Hid (Rw.to t k 104 m = none) := by show _ = _; rw [hR.out, if_pos (by omega)]
    clear hR
    go_enter Tryz.func32, Tryz.ntmps32
    go_wp2_with (go_at_call 36; refine cB.mono ?_; rintro e w' ⟨rfl, rfl⟩)
    refine cE.mono ?_
    rintro e w' ⟨rfl, rfl⟩
    go_wp2_with fail
    refine bodyPost_ret (res_tgt rfl _ w 0 0 rfl) rfl ⟨?_, (Kept.refl _ w).alloc _⟩
    rw [hE.out]
    rfl
  · have hE : Hid (Rw.to t k 104 m = some (max b (k - q))) := by show _ = _; rw [hR.out, if_neg (by omega)]
    have hv : Hid (((max b (k - q) : Nat) : Int) = max (b : Int) ((k : Int) - q)) := by show _ = _; omega
    have h0 : 0 ≤ max (b : Int) ((k : Int) - q) := by omega
    clear hR
    go_enter Tryz.func32, Tryz.ntmps32
    go_wp2_with (go_at_call 36; refine cB.mono ?_; rintro e w' ⟨rfl, rfl⟩)
    refine cE.mono ?_
    rintro e w' ⟨rfl, rfl⟩
    go_wp2_with fail
    refine bodyPost_ret (res_tgt rfl _ w (max (b : Int) ((k : Int) - q)) 0 rfl) rfl ⟨?_, (Kept.refl _ w).alloc _⟩
    rw [hE.out, ← hv.out]
    rfl
theorem r108_any (hA : Rn w A n t) (hr : Runey t) (hk : k ≤ n) (hn : n ≤ 100000) (hm : m ≤ 999) :
    Calls Tryz.prog 32 #[.slice A n c, .int .i64 k, .int .i64 108, .int .i64 m] w fun e w' => e = .returned (ans (Rw.to t k 108 m) 0) ∧ Kept (fun _ => False) w w' := by
  have hA1 : Rn (w.alloc zeroT) A n t := hA.kept ((Kept.refl (fun _ => False) w).alloc _) (fun _ _ => id)
  have hl := hA.1
  have hb := Rw.beg_le t k
  have he1 := Rw.en_ge t k
  have he2 := Rw.en_le t k (by rw [hA.1]; exact hk)
  rw [hl] at he2
  have hq : max 1 (m : Int) = ((max m 1 : Nat) : Int) := by omega
  have hq' : max (m : Int) 1 = ((max m 1 : Nat) : Int) := by omega
  have hq1 : 1 ≤ max m 1 ∧ max m 1 ≤ 1000 := by omega
  have cB := rbegin_any A n c t k (w.alloc zeroT) hA1 hk hn
  have cE := rend_any A n c t k (w.alloc zeroT) hA1 hk hn
  have hR : Hid (Rw.to t k 108 m = if min (Rw.en t k) (k + max m 1) = k then none else some (min (Rw.en t k) (k + max m 1))) := by
    show _ = _
    unfold Rw.to
    simp
  clear hA hr hA1 hl
  generalize Rw.beg t k = b at *
  generalize Rw.en t k = h at *
  generalize max m 1 = q at *
  obtain ⟨hq1, hq2⟩ := hq1
  by_cases hx : min (h : Int) ((k : Int) + q) = k
  · have hE : Hid (Rw.to t k 108 m = none) := by show _ = _; rw [hR.out, if_pos (by omega)]
    clear hR
    go_enter Tryz.func32, Tryz.ntmps32
    go_wp2_with (go_at_call 36; refine cB.mono ?_; rintro e w' ⟨rfl, rfl⟩)
    refine cE.mono ?_
    rintro e w' ⟨rfl, rfl⟩
    go_wp2_with fail
    refine bodyPost_ret (res_tgt rfl _ w 0 0 rfl) rfl ⟨?_, (Kept.refl _ w).alloc _⟩
    rw [hE.out]
    rfl
  · have hE : Hid (Rw.to t k 108 m = some (min h (k + q))) := by show _ = _; rw [hR.out, if_neg (by omega)]
    have hv : Hid (((min h (k + q) : Nat) : Int) = min (h : Int) ((k : Int) + q)) := by show _ = _; omega
    have h0 : 0 ≤ min (h : Int) ((k : Int) + q) := by omega
    clear hR
    go_enter Tryz.func32, Tryz.ntmps32
    go_wp2_with (go_at_call 36; refine cB.mono ?_; rintro e w' ⟨rfl, rfl⟩)
    refine cE.mono ?_
    rintro e w' ⟨rfl, rfl⟩
    go_wp2_with fail
    refine bodyPost_ret (res_tgt rfl _ w (min (h : Int) ((k : Int) + q)) 0 rfl) rfl ⟨?_, (Kept.refl _ w).alloc _⟩
    rw [hE.out, ← hv.out]
    rfl
theorem r48_any (hA : Rn w A n t) (hr : Runey t) (hk : k ≤ n) (hn : n ≤ 100000) (hm : m ≤ 999) :
    Calls Tryz.prog 32 #[.slice A n c, .int .i64 k, .int .i64 48, .int .i64 m] w fun e w' => e = .returned (ans (Rw.to t k 48 m) 0) ∧ Kept (fun _ => False) w w' := by
  have hA1 : Rn (w.alloc zeroT) A n t := hA.kept ((Kept.refl (fun _ => False) w).alloc _) (fun _ _ => id)
  have hl := hA.1
  have hb := Rw.beg_le t k
  have he1 := Rw.en_ge t k
  have he2 := Rw.en_le t k (by rw [hA.1]; exact hk)
  rw [hl] at he2
  have hq : max 1 (m : Int) = ((max m 1 : Nat) : Int) := by omega
  have hq' : max (m : Int) 1 = ((max m 1 : Nat) : Int) := by omega
  have hq1 : 1 ≤ max m 1 ∧ max m 1 ≤ 1000 := by omega
  have cB := rbegin_any A n c t k (w.alloc zeroT) hA1 hk hn
  have cE := rend_any A n c t k (w.alloc zeroT) hA1 hk hn
  have hE : Hid (Rw.to t k 48 m = some (Rw.beg t k)) := rfl
  clear hA hr hA1 hl
  generalize Rw.beg t k = b at *
  generalize Rw.en t k = h at *
  generalize max m 1 = q at *
  obtain ⟨hq1, hq2⟩ := hq1
  · skip
    go_enter Tryz.func32, Tryz.ntmps32
    go_wp2_with (go_at_call 36; refine cB.mono ?_; rintro e w' ⟨rfl, rfl⟩)
    refine cE.mono ?_
    rintro e w' ⟨rfl, rfl⟩
    go_wp2_with fail
    refine bodyPost_ret (res_tgt rfl _ w b 0 rfl) rfl ⟨?_, (Kept.refl _ w).alloc _⟩
    rw [hE.out]
    rfl
theorem r94_any (hA : Rn w A n t) (hr : Runey t) (hk : k ≤ n) (hn : n ≤ 100000) (hm : m ≤ 999) :
    Calls Tryz.prog 32 #[.slice A n c, .int .i64 k, .int .i64 94, .int .i64 m] w fun e w' => e = .returned (ans (Rw.to t k 94 m) 0) ∧ Kept (fun _ => False) w w' := by
  have hA1 : Rn (w.alloc zeroT) A n t := hA.kept ((Kept.refl (fun _ => False) w).alloc _) (fun _ _ => id)
  have hl := hA.1
  have hb := Rw.beg_le t k
  have he1 := Rw.en_ge t k
  have he2 := Rw.en_le t k (by rw [hA.1]; exact hk)
  rw [hl] at he2
  have hq : max 1 (m : Int) = ((max m 1 : Nat) : Int) := by omega
  have hq' : max (m : Int) 1 = ((max m 1 : Nat) : Int) := by omega
  have hq1 : 1 ≤ max m 1 ∧ max m 1 ≤ 1000 := by omega
  have cB := rbegin_any A n c t k (w.alloc zeroT) hA1 hk hn
  have cE := rend_any A n c t k (w.alloc zeroT) hA1 hk hn
  have hE : Hid (Rw.to t k 94 m = some (Rw.fst t k)) := rfl
  have cF := rfirst_any A n c t k (w.alloc zeroT) hA1 hr hk hn
  have hf := Rw.fst_le t k (by rw [hl]; exact hk)
  clear hA hr hA1 hl
  generalize Rw.beg t k = b at *
  generalize Rw.en t k = h at *
  generalize Rw.fst t k = f at *
  generalize max m 1 = q at *
  obtain ⟨hq1, hq2⟩ := hq1
  · skip
    go_enter Tryz.func32, Tryz.ntmps32
    go_wp2_with (go_at_call 36; refine cB.mono ?_; rintro e w' ⟨rfl, rfl⟩)
    refine cE.mono ?_
    rintro e w' ⟨rfl, rfl⟩
    go_wp2_with (go_at_call 67; refine cF.mono ?_; rintro e w' ⟨rfl, rfl⟩)
    refine bodyPost_ret (res_tgt rfl _ w f 0 rfl) rfl ⟨?_, (Kept.refl _ w).alloc _⟩
    rw [hE.out]
    rfl
theorem r36_any (hA : Rn w A n t) (hr : Runey t) (hk : k ≤ n) (hn : n ≤ 100000) (hm : m ≤ 999) :
    Calls Tryz.prog 32 #[.slice A n c, .int .i64 k, .int .i64 36, .int .i64 m] w fun e w' => e = .returned (ans (Rw.to t k 36 m) 1) ∧ Kept (fun _ => False) w w' := by
  have hA1 : Rn (w.alloc zeroT) A n t := hA.kept ((Kept.refl (fun _ => False) w).alloc _) (fun _ _ => id)
  have hl := hA.1
  have hb := Rw.beg_le t k
  have he1 := Rw.en_ge t k
  have he2 := Rw.en_le t k (by rw [hA.1]; exact hk)
  rw [hl] at he2
  have hq : max 1 (m : Int) = ((max m 1 : Nat) : Int) := by omega
  have hq' : max (m : Int) 1 = ((max m 1 : Nat) : Int) := by omega
  have hq1 : 1 ≤ max m 1 ∧ max m 1 ≤ 1000 := by omega
  have cB := rbegin_any A n c t k (w.alloc zeroT) hA1 hk hn
  have cE := rend_any A n c t k (w.alloc zeroT) hA1 hk hn
  generalize hqd : max m 1 = q at *
  obtain ⟨hq1, hq2⟩ := hq1
  obtain ⟨p, hp⟩ : ∃ p, q = p + 1 := ⟨q - 1, by omega⟩
  have hp1 : (q : Int) - 1 = p := by omega
  have hp2 : q - 1 = p := by omega
  have hR : Hid (Rw.to t k 36 m = (Rw.dn t k p).map (Rw.en t)) := by
    show _ = _
    unfold Rw.to
    simp [hqd, hp2]
  have cD := rdown_any A n c t k p (w.alloc zeroT) hA1 hk hn (by omega)
  cases hd : Rw.dn t k p with
  | none =>
    rw [hd] at cD
    unfold rowOf at cD
    simp only at cD
    have hE : Hid (Rw.to t k 36 m = none) := by show _ = _; rw [hR.out, hd]; rfl
    clear hA hr hA1 hl hR hd hqd hp hp2
    generalize Rw.beg t k = b at *
    generalize Rw.en t k = h at *
    go_enter Tryz.func32, Tryz.ntmps32
    go_wp2_with (go_at_call 36; refine cB.mono ?_; rintro e w' ⟨rfl, rfl⟩)
    refine cE.mono ?_
    rintro e w' ⟨rfl, rfl⟩
    go_wp2_with (go_at_call 68; refine cD.mono ?_; rintro e w' ⟨rfl, rfl⟩)
    refine bodyPost_ret (res_tgt rfl _ w 0 0 rfl) rfl ⟨?_, (Kept.refl _ w).alloc _⟩
    rw [hE.out]
    rfl
  | some x =>
    rw [hd] at cD
    unfold rowOf at cD
    simp only at cD
    have hxl : x ≤ n := by rw [← hl]; exact (Rw.dn_some t _ k x (by rw [hl]; exact hk) hd).1
    have hx0 := Rw.en_ge t x
    have hx1 := Rw.en_le t x (by rw [hl]; exact hxl)
    rw [hl] at hx1
    have hf := Rw.fst_le t x (by rw [hl]; exact hxl)
    have cX := rend_any A n c t x (w.alloc zeroT) hA1 hxl hn
    have cF := rfirst_any A n c t x (w.alloc zeroT) hA1 hr hxl hn
    have hE : Hid (Rw.to t k 36 m = some (Rw.en t x)) := by show _ = _; rw [hR.out, hd]; rfl
    clear hA hr hA1 hl hR hd hqd hp hp2
    generalize Rw.beg t k = b at *
    generalize Rw.en t k = h at *
    generalize Rw.en t x = ex at *
    generalize Rw.fst t x = fx at *
    go_enter Tryz.func32, Tryz.ntmps32
    go_wp2_with (go_at_call 36; refine cB.mono ?_; rintro e w' ⟨rfl, rfl⟩)
    refine cE.mono ?_
    rintro e w' ⟨rfl, rfl⟩
    go_wp2_with (go_at_call 68; refine cD.mono ?_; rintro e w' ⟨rfl, rfl⟩)
    refine cX.mono ?_
    rintro e w' ⟨rfl, rfl⟩
    go_wp2_with fail
    refine bodyPost_ret (res_tgt rfl _ w ex 1 rfl) rfl ⟨?_, (Kept.refl _ w).alloc _⟩
    rw [hE.out]
    rfl
theorem r95_any (hA : Rn w A n t) (hr : Runey t) (hk : k ≤ n) (hn : n ≤ 100000) (hm : m ≤ 999) :
    Calls Tryz.prog 32 #[.slice A n c, .int .i64 k, .int .i64 95, .int .i64 m] w fun e w' => e = .returned (ans (Rw.to t k 95 m) 2) ∧ Kept (fun _ => False) w w' := by
  have hA1 : Rn (w.alloc zeroT) A n t := hA.kept ((Kept.refl (fun _ => False) w).alloc _) (fun _ _ => id)
  have hl := hA.1
  have hb := Rw.beg_le t k
  have he1 := Rw.en_ge t k
  have he2 := Rw.en_le t k (by rw [hA.1]; exact hk)
  rw [hl] at he2
  have hq : max 1 (m : Int) = ((max m 1 : Nat) : Int) := by omega
  have hq' : max (m : Int) 1 = ((max m 1 : Nat) : Int) := by omega
  have hq1 : 1 ≤ max m 1 ∧ max m 1 ≤ 1000 := by omega
  have cB := rbegin_any A n c t k (w.alloc zeroT) hA1 hk hn
  have cE := rend_any A n c t k (w.alloc zeroT) hA1 hk hn
  generalize hqd : max m 1 = q at *
  obtain ⟨hq1, hq2⟩ := hq1
  obtain ⟨p, hp⟩ : ∃ p, q = p + 1 := ⟨q - 1, by omega⟩
  have hp1 : (q : Int) - 1 = p := by omega
  have hp2 : q - 1 = p := by omega
  have hR : Hid (Rw.to t k 95 m = (Rw.dn t k p).map (Rw.fst t)) := by
    show _ = _
    unfold Rw.to
    simp [hqd, hp2]
  have cD := rdown_any A n c t k p (w.alloc zeroT) hA1 hk hn (by omega)
  cases hd : Rw.dn t k p with
  | none =>
    rw [hd] at cD
    unfold rowOf at cD
    simp only at cD
    have hE : Hid (Rw.to t k 95 m = none) := by show _ = _; rw [hR.out, hd]; rfl
    clear hA hr hA1 hl hR hd hqd hp hp2
    generalize Rw.beg t k = b at *
    generalize Rw.en t k = h at *
    go_enter Tryz.func32, Tryz.ntmps32
    go_wp2_with (go_at_call 36; refine cB.mono ?_; rintro e w' ⟨rfl, rfl⟩)
    refine cE.mono ?_
    rintro e w' ⟨rfl, rfl⟩
    go_wp2_with (go_at_call 68; refine cD.mono ?_; rintro e w' ⟨rfl, rfl⟩)
    refine bodyPost_ret (res_tgt rfl _ w 0 0 rfl) rfl ⟨?_, (Kept.refl _ w).alloc _⟩
    rw [hE.out]
    rfl
  | some x =>
    rw [hd] at cD
    unfold rowOf at cD
    simp only at cD
    have hxl : x ≤ n := by rw [← hl]; exact (Rw.dn_some t _ k x (by rw [hl]; exact hk) hd).1
    have hx0 := Rw.en_ge t x
    have hx1 := Rw.en_le t x (by rw [hl]; exact hxl)
    rw [hl] at hx1
    have hf := Rw.fst_le t x (by rw [hl]; exact hxl)
    have cX := rend_any A n c t x (w.alloc zeroT) hA1 hxl hn
    have cF := rfirst_any A n c t x (w.alloc zeroT) hA1 hr hxl hn
    have hE : Hid (Rw.to t k 95 m = some (Rw.fst t x)) := by show _ = _; rw [hR.out, hd]; rfl
    clear hA hr hA1 hl hR hd hqd hp hp2
    generalize Rw.beg t k = b at *
    generalize Rw.en t k = h at *
    generalize Rw.en t x = ex at *
    generalize Rw.fst t x = fx at *
    go_enter Tryz.func32, Tryz.ntmps32
    go_wp2_with (go_at_call 36; refine cB.mono ?_; rintro e w' ⟨rfl, rfl⟩)
    refine cE.mono ?_
    rintro e w' ⟨rfl, rfl⟩
    go_wp2_with (go_at_call 68; refine cD.mono ?_; rintro e w' ⟨rfl, rfl⟩)
    refine cF.mono ?_
    rintro e w' ⟨rfl, rfl⟩
    go_wp2_with fail
    refine bodyPost_ret (res_tgt rfl _ w fx 2 rfl) rfl ⟨?_, (Kept.refl _ w).alloc _⟩
    rw [hE.out]
    rfl
theorem r106_any (hA : Rn w A n t) (hr : Runey t) (hk : k ≤ n) (hn : n ≤ 100000) (hm : m ≤ 999) :
    Calls Tryz.prog 32 #[.slice A n c, .int .i64 k, .int .i64 106, .int .i64 m] w fun e w' => e = .returned (ans (Rw.to t k 106 m) 2) ∧ Kept (fun _ => False) w w' := by
  have hA1 : Rn (w.alloc zeroT) A n t := hA.kept ((Kept.refl (fun _ => False) w).alloc _) (fun _ _ => id)
  have hl := hA.1
  have hb := Rw.beg_le t k
  have he1 := Rw.en_ge t k
  have he2 := Rw.en_le t k (by rw [hA.1]; exact hk)
  rw [hl] at he2
  have hq : max 1 (m : Int) = ((max m 1 : Nat) : Int) := by omega
  have hq' : max (m : Int) 1 = ((max m 1 : Nat) : Int) := by omega
  have hq1 : 1 ≤ max m 1 ∧ max m 1 ≤ 1000 := by omega
  have cB := rbegin_any A n c t k (w.alloc zeroT) hA1 hk hn
  have cE := rend_any A n c t k (w.alloc zeroT) hA1 hk hn
  generalize hqd : max m 1 = q at *
  obtain ⟨hq1, hq2⟩ := hq1
  have hR : Hid (Rw.to t k 106 m = (Rw.dn t k q).map (fun x => min (Rw.en t x) (x + (k - Rw.beg t k)))) := by
    show _ = _
    unfold Rw.to
    simp [hqd]
  have cD := rdown_any A n c t k q (w.alloc zeroT) hA1 hk hn (by omega)
  cases hd : Rw.dn t k q with
  | none =>
    rw [hd] at cD
    unfold rowOf at cD
    simp only at cD
    have hE : Hid (Rw.to t k 106 m = none) := by show _ = _; rw [hR.out, hd]; rfl
    clear hA hr hA1 hl hR hd hqd
    generalize Rw.beg t k = b at *
    generalize Rw.en t k = h at *
    go_enter Tryz.func32, Tryz.ntmps32
    go_wp2_with (go_at_call 36; refine cB.mono ?_; rintro e w' ⟨rfl, rfl⟩)
    refine cE.mono ?_
    rintro e w' ⟨rfl, rfl⟩
    go_wp2_with (go_at_call 68; refine cD.mono ?_; rintro e w' ⟨rfl, rfl⟩)
    refine bodyPost_ret (res_tgt rfl _ w 0 0 rfl) rfl ⟨?_, (Kept.refl _ w).alloc _⟩
    rw [hE.out]
    rfl
  | some x =>
    rw [hd] at cD
    unfold rowOf at cD
    simp only at cD
    have hxl : x ≤ n := by rw [← hl]; exact (Rw.dn_some t _ k x (by rw [hl]; exact hk) hd).1
    have hx0 := Rw.en_ge t x
    have hx1 := Rw.en_le t x (by rw [hl]; exact hxl)
    rw [hl] at hx1
    have hf := Rw.fst_le t x (by rw [hl]; exact hxl)
    have cX := rend_any A n c t x (w.alloc zeroT) hA1 hxl hn
    have cF := rfirst_any A n c t x (w.alloc zeroT) hA1 hr hxl hn
    have hE : Hid (Rw.to t k 106 m = some (min (Rw.en t x) (x + (k - Rw.beg t k)))) := by show _ = _; rw [hR.out, hd]; rfl
    have hv : Hid (((min (Rw.en t x) (x + (k - Rw.beg t k)) : Nat) : Int) = min (Rw.en t x : Int) ((x : Int) + k - (Rw.beg t k : Nat))) := by show _ = _; omega
    have h0 : 0 ≤ min (Rw.en t x : Int) ((x : Int) + k - (Rw.beg t k : Nat)) := by omega
    clear hA hr hA1 hl hR hd hqd
    generalize Rw.beg t k = b at *
    generalize Rw.en t k = h at *
    generalize Rw.en t x = ex at *
    generalize Rw.fst t x = fx at *
    go_enter Tryz.func32, Tryz.ntmps32
    go_wp2_with (go_at_call 36; refine cB.mono ?_; rintro e w' ⟨rfl, rfl⟩)
    refine cE.mono ?_
    rintro e w' ⟨rfl, rfl⟩
    go_wp2_with (go_at_call 68; refine cD.mono ?_; rintro e w' ⟨rfl, rfl⟩)
    refine cX.mono ?_
    rintro e w' ⟨rfl, rfl⟩
    go_wp2_with fail
    refine bodyPost_ret (res_tgt rfl _ w (min (ex : Int) ((x : Int) + k - b)) 2 rfl) rfl ⟨?_, (Kept.refl _ w).alloc _⟩
    rw [hE.out, ← hv.out]
    rfl
theorem r107_any (hA : Rn w A n t) (hr : Runey t) (hk : k ≤ n) (hn : n ≤ 100000) (hm : m ≤ 999) :
    Calls Tryz.prog 32 #[.slice A n c, .int .i64 k, .int .i64 107, .int .i64 m] w fun e w' => e = .returned (ans (Rw.to t k 107 m) 2) ∧ Kept (fun _ => False) w w' := by
  have hA1 : Rn (w.alloc zeroT) A n t := hA.kept ((Kept.refl (fun _ => False) w).alloc _) (fun _ _ => id)
  have hl := hA.1
  have hb := Rw.beg_le t k
  have he1 := Rw.en_ge t k
  have he2 := Rw.en_le t k (by rw [hA.1]; exact hk)
  rw [hl] at he2
  have hq : max 1 (m : Int) = ((max m 1 : Nat) : Int) := by omega
  have hq' : max (m : Int) 1 = ((max m 1 : Nat) : Int) := by omega
  have hq1 : 1 ≤ max m 1 ∧ max m 1 ≤ 1000 := by omega
  have cB := rbegin_any A n c t k (w.alloc zeroT) hA1 hk hn
  have cE := rend_any A n c t k (w.alloc zeroT) hA1 hk hn
  generalize hqd : max m 1 = q at *
  obtain ⟨hq1, hq2⟩ := hq1
  have hR : Hid (Rw.to t k 107 m = (Rw.up t k q).map (fun x => min (Rw.en t x) (x + (k - Rw.beg t k)))) := by
    show _ = _
    unfold Rw.to
    simp [hqd]
  have cD := rup_any A n c t k q (w.alloc zeroT) hA1 hk hn (by omega) hq1
  cases hd : Rw.up t k q with
  | none =>
    rw [hd] at cD
    unfold rowOf at cD
    simp only at cD
    have hE : Hid (Rw.to t k 107 m = none) := by show _ = _; rw [hR.out, hd]; rfl
    clear hA hr hA1 hl hR hd hqd
    generalize Rw.beg t k = b at *
    generalize Rw.en t k = h at *
    go_enter Tryz.func32, Tryz.ntmps32
    go_wp2_with (go_at_call 36; refine cB.mono ?_; rintro e w' ⟨rfl, rfl⟩)
    refine cE.mono ?_
    rintro e w' ⟨rfl, rfl⟩
    go_wp2_with (go_at_call 68; refine cD.mono ?_; rintro e w' ⟨rfl, rfl⟩)
    refine bodyPost_ret (res_tgt rfl _ w 0 0 rfl) rfl ⟨?_, (Kept.refl _ w).alloc _⟩
    rw [hE.out]
    rfl
  | some x =>
    rw [hd] at cD
    unfold rowOf at cD
    simp only at cD
    have hxl : x ≤ n := Nat.le_trans (Rw.up_some t _ k x hd).1 hk
    have hx0 := Rw.en_ge t x
    have hx1 := Rw.en_le t x (by rw [hl]; exact hxl)
    rw [hl] at hx1
    have hf := Rw.fst_le t x (by rw [hl]; exact hxl)
    have cX := rend_any A n c t x (w.alloc zeroT) hA1 hxl hn
    have cF := rfirst_any A n c t x (w.alloc zeroT) hA1 hr hxl hn
    have hE : Hid (Rw.to t k 107 m = some (min (Rw.en t x) (x + (k - Rw.beg t k)))) := by show _ = _; rw [hR.out, hd]; rfl
    have hv : Hid (((min (Rw.en t x) (x + (k - Rw.beg t k)) : Nat) : Int) = min (Rw.en t x : Int) ((x : Int) + k - (Rw.beg t k : Nat))) := by show _ = _; omega
    have h0 : 0 ≤ min (Rw.en t x : Int) ((x : Int) + k - (Rw.beg t k : Nat)) := by omega
    clear hA hr hA1 hl hR hd hqd
    generalize Rw.beg t k = b at *
    generalize Rw.en t k = h at *
    generalize Rw.en t x = ex at *
    generalize Rw.fst t x = fx at *
    go_enter Tryz.func32, Tryz.ntmps32
    go_wp2_with (go_at_call 36; refine cB.mono ?_; rintro e w' ⟨rfl, rfl⟩)
    refine cE.mono ?_
    rintro e w' ⟨rfl, rfl⟩
    go_wp2_with (go_at_call 68; refine cD.mono ?_; rintro e w' ⟨rfl, rfl⟩)
    refine cX.mono ?_
    rintro e w' ⟨rfl, rfl⟩
    go_wp2_with fail
    refine bodyPost_ret (res_tgt rfl _ w (min (ex : Int) ((x : Int) + k - b)) 2 rfl) rfl ⟨?_, (Kept.refl _ w).alloc _⟩
    rw [hE.out, ← hv.out]
    rfl
theorem r43_any (hA : Rn w A n t) (hr : Runey t) (hk : k ≤ n) (hn : n ≤ 100000) (hm : m ≤ 999) :
    Calls Tryz.prog 32 #[.slice A n c, .int .i64 k, .int .i64 43, .int .i64 m] w fun e w' => e = .returned (ans (Rw.to t k 43 m) 2) ∧ Kept (fun _ => False) w w' := by
  have hA1 : Rn (w.alloc zeroT) A n t := hA.kept ((Kept.refl (fun _ => False) w).alloc _) (fun _ _ => id)
  have hl := hA.1
  have hb := Rw.beg_le t k
  have he1 := Rw.en_ge t k
  have he2 := Rw.en_le t k (by rw [hA.1]; exact hk)
  rw [hl] at he2
  have hq : max 1 (m : Int) = ((max m 1 : Nat) : Int) := by omega
  have hq' : max (m : Int) 1 = ((max m 1 : Nat) : Int) := by omega
  have hq1 : 1 ≤ max m 1 ∧ max m 1 ≤ 1000 := by omega
  have cB := rbegin_any A n c t k (w.alloc zeroT) hA1 hk hn
  have cE := rend_any A n c t k (w.alloc zeroT) hA1 hk hn
  generalize hqd : max m 1 = q at *
  obtain ⟨hq1, hq2⟩ := hq1
  have hR : Hid (Rw.to t k 43 m = (Rw.dn t k q).map (Rw.fst t)) := by
    show _ = _
    unfold Rw.to
    simp [hqd]
  have cD := rdown_any A n c t k q (w.alloc zeroT) hA1 hk hn (by omega)
  cases hd : Rw.dn t k q with
  | none =>
    rw [hd] at cD
    unfold rowOf at cD
    simp only at cD
    have hE : Hid (Rw.to t k 43 m = none) := by show _ = _; rw [hR.out, hd]; rfl
    clear hA hr hA1 hl hR hd hqd
    generalize Rw.beg t k = b at *
    generalize Rw.en t k = h at *
    go_enter Tryz.func32, Tryz.ntmps32
    go_wp2_with (go_at_call 36; refine cB.mono ?_; rintro e w' ⟨rfl, rfl⟩)
    refine cE.mono ?_
    rintro e w' ⟨rfl, rfl⟩
    go_wp2_with (go_at_call 68; refine cD.mono ?_; rintro e w' ⟨rfl, rfl⟩)
    refine bodyPost_ret (res_tgt rfl _ w 0 0 rfl) rfl ⟨?_, (Kept.refl _ w).alloc _⟩
    rw [hE.out]
    rfl
  | some x =>
    rw [hd] at cD
    unfold rowOf at cD
    simp only at cD
    have hxl : x ≤ n := by rw [← hl]; exact (Rw.dn_some t _ k x (by rw [hl]; exact hk) hd).1
    have hx0 := Rw.en_ge t x
    have hx1 := Rw.en_le t x (by rw [hl]; exact hxl)
    rw [hl] at hx1
    have hf := Rw.fst_le t x (by rw [hl]; exact hxl)
    have cX := rend_any A n c t x (w.alloc zeroT) hA1 hxl hn
    have cF := rfirst_any A n c t x (w.alloc zeroT) hA1 hr hxl hn
    have hE : Hid (Rw.to t k 43 m = some (Rw.fst t x)) := by show _ = _; rw [hR.out, hd]; rfl
    clear hA hr hA1 hl hR hd hqd
    generalize Rw.beg t k = b at *
    generalize Rw.en t k = h at *
    generalize Rw.en t x = ex at *
    generalize Rw.fst t x = fx at *
    go_enter Tryz.func32, Tryz.ntmps32
    go_wp2_with (go_at_call 36; refine cB.mono ?_; rintro e w' ⟨rfl, rfl⟩)
    refine cE.mono ?_
    rintro e w' ⟨rfl, rfl⟩
    go_wp2_with (go_at_call 68; refine cD.mono ?_; rintro e w' ⟨rfl, rfl⟩)
    refine cF.mono ?_
    rintro e w' ⟨rfl, rfl⟩
    go_wp2_with fail
    refine bodyPost_ret (res_tgt rfl _ w fx 2 rfl) rfl ⟨?_, (Kept.refl _ w).alloc _⟩
    rw [hE.out]
    rfl
theorem r45_any (hA : Rn w A n t) (hr : Runey t) (hk : k ≤ n) (hn : n ≤ 100000) (hm : m ≤ 999) :
    Calls Tryz.prog 32 #[.slice A n c, .int .i64 k, .int .i64 45, .int .i64 m] w fun e w' => e = .returned (ans (Rw.to t k 45 m) 2) ∧ Kept (fun _ => False) w w' := by
  have hA1 : Rn (w.alloc zeroT) A n t := hA.kept ((Kept.refl (fun _ => False) w).alloc _) (fun _ _ => id)
  have hl := hA.1
  have hb := Rw.beg_le t k
  have he1 := Rw.en_ge t k
  have he2 := Rw.en_le t k (by rw [hA.1]; exact hk)
  rw [hl] at he2
  have hq : max 1 (m : Int) = ((max m 1 : Nat) : Int) := by omega
  have hq' : max (m : Int) 1 = ((max m 1 : Nat) : Int) := by omega
  have hq1 : 1 ≤ max m 1 ∧ max m 1 ≤ 1000 := by omega
  have cB := rbegin_any A n c t k (w.alloc zeroT) hA1 hk hn
  have cE := rend_any A n c t k (w.alloc zeroT) hA1 hk hn
  generalize hqd : max m 1 = q at *
  obtain ⟨hq1, hq2⟩ := hq1
  have hR : Hid (Rw.to t k 45 m = (Rw.up t k q).map (Rw.fst t)) := by
    show _ = _
    unfold Rw.to
    simp [hqd]
  have cD := rup_any A n c t k q (w.alloc zeroT) hA1 hk hn (by omega) hq1
  cases hd : Rw.up t k q with
  | none =>
    rw [hd] at cD
    unfold rowOf at cD
    simp only at cD
    have hE : Hid (Rw.to t k 45 m = none) := by show _ = _; rw [hR.out, hd]; rfl
    clear hA hr hA1 hl hR hd hqd
    generalize Rw.beg t k = b at *
    generalize Rw.en t k = h at *
    go_enter Tryz.func32, Tryz.ntmps32
    go_wp2_with (go_at_call 36; refine cB.mono ?_; rintro e w' ⟨rfl, rfl⟩)
    refine cE.mono ?_
    rintro e w' ⟨rfl, rfl⟩
    go_wp2_with (go_at_call 68; refine cD.mono ?_; rintro e w' ⟨rfl, rfl⟩)
    refine bodyPost_ret (res_tgt rfl _ w 0 0 rfl) rfl ⟨?_, (Kept.refl _ w).alloc _⟩
    rw [hE.out]
    rfl
  | some x =>
    rw [hd] at cD
    unfold rowOf at cD
    simp only at cD
    have hxl : x ≤ n := Nat.le_trans (Rw.up_some t _ k x hd).1 hk
    have hx0 := Rw.en_ge t x
    have hx1 := Rw.en_le t x (by rw [hl]; exact hxl)
    rw [hl] at hx1
    have hf := Rw.fst_le t x (by rw [hl]; exact hxl)
    have cX := rend_any A n c t x (w.alloc zeroT) hA1 hxl hn
    have cF := rfirst_any A n c t x (w.alloc zeroT) hA1 hr hxl hn
    have hE : Hid (Rw.to t k 45 m = some (Rw.fst t x)) := by show _ = _; rw [hR.out, hd]; rfl
    clear hA hr hA1 hl hR hd hqd
    generalize Rw.beg t k = b at *
    generalize Rw.en t k = h at *
    generalize Rw.en t x = ex at *
    generalize Rw.fst t x = fx at *
    go_enter Tryz.func32, Tryz.ntmps32
    go_wp2_with (go_at_call 36; refine cB.mono ?_; rintro e w' ⟨rfl, rfl⟩)
    refine cE.mono ?_
    rintro e w' ⟨rfl, rfl⟩
    go_wp2_with (go_at_call 68; refine cD.mono ?_; rintro e w' ⟨rfl, rfl⟩)
    refine cF.mono ?_
    rintro e w' ⟨rfl, rfl⟩
    go_wp2_with fail
    refine bodyPost_ret (res_tgt rfl _ w fx 2 rfl) rfl ⟨?_, (Kept.refl _ w).alloc _⟩
    rw [hE.out]
    rfl
end
end Go.Proofs.YtbofjefblhnkoaaGreatDoor
namespace Go.Proofs.YtbofjefblhnkoaaGreatDoor
open Go Go.RowKit
section
variable {A : Option Addr} {n c : Nat} {t : List Int} {k m : Nat} {w : World}
theorem rwalk_any (key : Int) (want : Nat) (hkey : key = 71 ∨ key = 16777319) (hA : Rn w A n t) (hr : Runey t) (hk : k ≤ n) (hn : n ≤ 100000) (hm : m ≤ 999)
    (hw : (m = 0 ∧ key = 71 ∧ want = n) ∨ (m = 0 ∧ key = 16777319 ∧ want = 0) ∨ (m ≠ 0 ∧ want = m - 1)) :
    Calls Tryz.prog 32 #[.slice A n c, .int .i64 k, .int .i64 key, .int .i64 m] w fun e w' => e = .returned (ans (some (Rw.fst t (Rw.wd t 0 want))) 2) ∧ Kept (fun _ => False) w w' := by
  have hA1 : Rn (w.alloc zeroT) A n t := hA.kept ((Kept.refl (fun _ => False) w).alloc _) (fun _ _ => id)
  have hl := hA.1
  have cB := rbegin_any A n c t k (w.alloc zeroT) hA1 hk hn
  have cE := rend_any A n c t k (w.alloc zeroT) hA1 hk hn
  have hb := Rw.beg_le t k
  have he1 := Rw.en_ge t k
  have he2 := Rw.en_le t k (by rw [hA.1]; exact hk)
  rw [hl] at he2
  have hq : max 1 (m : Int) = ((max m 1 : Nat) : Int) := by omega
  have hq' : max (m : Int) 1 = ((max m 1 : Nat) : Int) := by omega
  generalize max m 1 = q at *
  have cR := fun (x : Nat) (hx : x ≤ n) => rdown_any A n c t x 1 (w.alloc zeroT) hA1 hx hn (by decide)
  have cF := fun (x : Nat) (hx : x ≤ n) => rfirst_any A n c t x (w.alloc zeroT) hA1 hr hx hn
  have hwl : want ≤ 100000 := by omega
  have HL := Lib.hid hl
  have HY := Lib.hid (fun (x : Nat) (hx : x ≤ n) => Rw.dn_one t x (by rw [hl]; exact hx))
  have HB := Lib.hid (fun (x : Nat) (hx : x ≤ n) (he : Rw.en t x ≠ n) => Rw.beg_stop (Rw.en_at t x (by have := Rw.en_le t x (by rw [hl]; exact hx); omega)))
  have HF := Lib.hid (fun (x : Nat) (hx : x ≤ n) => Nat.le_trans (Rw.fst_le t x (by rw [hl]; exact hx)) (by have := Rw.en_le t x (by rw [hl]; exact hx); rwa [hl] at this))
  have HEL := Lib.hid (fun (x : Nat) (hx : x ≤ n) => by have := Rw.en_le t x (by rw [hl]; exact hx); rwa [hl] at this)
  clear hA hr hA1 hl
  generalize Rw.beg t k = b at *
  generalize Rw.en t k = h at *
  have fin : ∀ (w0 : World), True := fun _ => trivial
  clear fin
  generalize hD : Rw.fst t (Rw.wd t 0 want) = D
  have HD := Lib.hid hD
  clear hD
  have hw3 : (m = 0 ∧ key = 71 ∧ want = n) ∨ (m = 0 ∧ key = 16777319 ∧ want = 0) ∨ (m ≠ 0 ∧ key = 71 ∧ want = m - 1) ∨ (m ≠ 0 ∧ key = 16777319 ∧ want = m - 1) := by
    rcases hw with h | h | ⟨h1, h2⟩
    · exact .inl h
    · exact .inr (.inl h)
    · rcases hkey with hk | hk
      · exact .inr (.inr (.inl ⟨h1, hk, h2⟩))
      · exact .inr (.inr (.inr ⟨h1, hk, h2⟩))
  clear hw hkey
  rcases hw3 with ⟨rfl, rfl, hwn⟩ | ⟨rfl, rfl, hwn⟩ | ⟨hm0, rfl, hwm⟩ | ⟨hm0, rfl, hwm⟩
  case' inr.inr.inl | inr.inr.inr =>
    have b1 : ((m : Int) == 0) = false := by rw [beq_eq_false_iff_ne]; omega
    have b2 : (m == 0) = false := by rw [beq_eq_false_iff_ne]; omega
    have b3 : (m : Int) - 1 = (want : Int) := by omega
    have hwn : want = want := rfl
    clear hwm hm0
  all_goals
    have HW := Lib.hid hwn
    clear hwn
    go_enter Tryz.func32, Tryz.ntmps32
    go_wp2_with (go_at_call 36; refine cB.mono ?_; rintro e w' ⟨rfl, rfl⟩)
    refine cE.mono ?_
    rintro e w' ⟨rfl, rfl⟩
    clear cB cE
    go_wp2_with fail
    go_loop [13, 17] (fun v u => ∃ x y : Nat, x ≤ n ∧ y ≤ want ∧ v = .int .i64 x ∧ u = .int .i64 y ∧ Rw.fst t (Rw.wd t x y) = D) (fun _ u => (intOf u).toNat)
    case atStart => exact ⟨0, want, Nat.zero_le _, Nat.le_refl _, rfl, by first | rfl | (rw [HW.out]; rfl) | rw [HW.out], HD.out⟩
    case round =>
      obtain ⟨x, y, hx, hy, rfl, rfl, hd⟩ := hrel
      have HX := Lib.hid hd
      clear hd
      by_cases h0 : y = 0
      · subst h0
        have HE : Hid (D = Rw.fst t x) := HX.out.symm
        have cF' := cF x hx
        have hfl := HF.out x hx
        clear cF cR HX
        generalize Rw.fst t x = f at *
        go_wp2_with (go_at_call 67; refine cF'.mono ?_; rintro e w' ⟨rfl, rfl⟩)
        refine bodyPost_ret (res_tgt rfl _ w f 2 rfl) rfl ⟨?_, (Kept.refl _ w).alloc _⟩
        rw [HE.out]
        rfl
      · obtain ⟨z, rfl⟩ : ∃ z, y = z + 1 := ⟨y - 1, by omega⟩
        have bz : decide (0 < ((z + 1 : Nat) : Int)) = true := by simp
        clear h0
        have cR' := cR x hx
        rw [HY.out x hx, HL.out] at cR'
        have hwd : Hid (Rw.wd t x (z + 1) = if Rw.en t x = n then x else Rw.wd t (Rw.en t x + 1) z) := by
          show (match Rw.dn t x 1 with | none => x | some y => Rw.wd t y z) = _
          rw [HY.out x hx, HL.out]
          by_cases he : Rw.en t x = n
          · rw [if_pos he, if_pos he]
          · rw [if_neg he, if_neg he]
        have hel := HEL.out x hx
        by_cases he : Rw.en t x = n
        · rw [if_pos he] at cR'
          unfold rowOf at cR'
          simp only at cR'
          have HE : Hid (D = Rw.fst t x) := by show _ = _; rw [← HX.out, hwd.out, if_pos he]
          have cF' := cF x hx
          have hfl := HF.out x hx
          clear cF cR HX hwd he hel
          generalize Rw.fst t x = f at *
          go_wp2_with (go_at_call 68; refine cR'.mono ?_; rintro e w' ⟨rfl, rfl⟩)
          refine cF'.mono ?_
          rintro e w' ⟨rfl, rfl⟩
          go_wp2_with fail
          refine bodyPost_ret (res_tgt rfl _ w f 2 rfl) rfl ⟨?_, (Kept.refl _ w).alloc _⟩
          rw [HE.out]
          rfl
        · rw [if_neg he] at cR'
          unfold rowOf at cR'
          simp only at cR'
          have HE : Hid (Rw.fst t (Rw.wd t (Rw.en t x + 1) z) = D) := by show _ = _; rw [← HX.out, hwd.out, if_neg he]
          have hlt : Rw.en t x < n := by omega
          clear cF cR HX hwd he hel
          generalize Rw.en t x = ex at *
          go_wp2_with (go_at_call 68; refine cR'.mono ?_; rintro e w' ⟨rfl, rfl⟩)
          go_round
          case rel => exact ⟨ex + 1, z, by omega, by omega, by go_num, by go_num, HE.out⟩
          case measure => simp [intOf]
theorem r71_any (hA : Rn w A n t) (hr : Runey t) (hk : k ≤ n) (hn : n ≤ 100000) (hm : m ≤ 999) :
    Calls Tryz.prog 32 #[.slice A n c, .int .i64 k, .int .i64 71, .int .i64 m] w fun e w' => e = .returned (ans (Rw.to t k 71 m) 2) ∧ Kept (fun _ => False) w w' := by
  have hl := hA.1
  by_cases h0 : m = 0
  · have h := rwalk_any (c := c) (k := k) (w := w) 71 n (.inl rfl) hA hr hk hn hm (.inl ⟨h0, rfl, rfl⟩)
    have e := Rw.wd_far t 0 (Nat.zero_le _) rfl
    rw [hl] at e
    rw [e] at h
    have hto : Rw.to t k 71 m = some (Rw.fst t (Rw.beg t n)) := by
      unfold Rw.to
      simp [h0, hl, Rw.fst, Rw.beg_beg]
    rw [hto]
    exact h
  · have h := rwalk_any (c := c) (k := k) (w := w) 71 (m - 1) (.inl rfl) hA hr hk hn hm (.inr (.inr ⟨h0, rfl⟩))
    have hto : Rw.to t k 71 m = some (Rw.fst t (Rw.wd t 0 (m - 1))) := by
      unfold Rw.to Rw.nth
      simp [h0]
    rw [hto]
    exact h
theorem r16777319_any (hA : Rn w A n t) (hr : Runey t) (hk : k ≤ n) (hn : n ≤ 100000) (hm : m ≤ 999) :
    Calls Tryz.prog 32 #[.slice A n c, .int .i64 k, .int .i64 16777319, .int .i64 m] w fun e w' => e = .returned (ans (Rw.to t k 16777319 m) 2) ∧ Kept (fun _ => False) w w' := by
  by_cases h0 : m = 0
  · have h := rwalk_any (c := c) (k := k) (w := w) 16777319 0 (.inr rfl) hA hr hk hn hm (.inr (.inl ⟨h0, rfl, rfl⟩))
    have hto : Rw.to t k 16777319 m = some (Rw.fst t (Rw.wd t 0 0)) := by
      unfold Rw.to
      simp [h0, Rw.wd]
    rw [hto]
    exact h
  · have h := rwalk_any (c := c) (k := k) (w := w) 16777319 (m - 1) (.inr rfl) hA hr hk hn hm (.inr (.inr ⟨h0, rfl⟩))
    have hto : Rw.to t k 16777319 m = some (Rw.fst t (Rw.wd t 0 (m - 1))) := by
      unfold Rw.to Rw.nth
      simp [h0]
    rw [hto]
    exact h
/-- Of whatever key of these. -/
theorem rmove_yes (key : Int) (hA : Rn w A n t) (hr : Runey t) (hk : k ≤ n) (hn : n ≤ 100000) (hm : m ≤ 999) (hl : Rw.Line key) :
    Calls Tryz.prog 32 #[.slice A n c, .int .i64 k, .int .i64 key, .int .i64 m] w fun e w' => e = .returned (ans (Rw.to t k key m) (Rw.kd key)) ∧ Kept (fun _ => False) w w' := by
  rcases hl with rfl | rfl | rfl | rfl | rfl | rfl | rfl | rfl | rfl | rfl | rfl | rfl
  · exact r104_any hA hr hk hn hm
  · exact r108_any hA hr hk hn hm
  · exact r48_any hA hr hk hn hm
  · exact r94_any hA hr hk hn hm
  · exact r36_any hA hr hk hn hm
  · exact r106_any hA hr hk hn hm
  · exact r107_any hA hr hk hn hm
  · exact r43_any hA hr hk hn hm
  · exact r45_any hA hr hk hn hm
  · exact r95_any hA hr hk hn hm
  · exact r71_any hA hr hk hn hm
  · exact r16777319_any hA hr hk hn hm
end
end Go.Proofs.YtbofjefblhnkoaaGreatDoor
namespace Go.Proofs.YtbofjefblhnkoaaGreatDoor
open Go Go.RowKit

set_option maxRecDepth 100000 in
set_option maxHeartbeats 1000000 in
theorem rgo_line (TA : Option Addr) (tc : Nat) (t : List Int) (k m : Nat) (c0 c2 c3 c4 c5 k1 k2 : Int) (A : Option Addr) (n c : Nat) (M : List (List Int)) (w : World) (hR : Rn w TA t.length t) (hr : Runey t) (hl : t.length ≤ 6000) (hk : k ≤ t.length) (hc : m ≤ 999) (hx : k1 = 0 ∨ Rw.Seek k1) (hA : Rws w A n 2 M) (hn : n ≤ 100000) (ho : Rw.mOk M) (hkey : Rw.kin c3 = 1) :
    Calls Tryz.prog 33 #[.slice TA t.length tc, .int .i64 k, cmdV c0 m c2 c3 c4 c5, sekV k1 k2, .slice A n c] w fun e w' => e = .returned (goV (Rw.goM t k c3 c5 m k1 k2 M)) ∧ Kept (fun _ => False) w w' := by
  have HK0 : Hid (Kept (fun _ => False) w ((((w.alloc (cmdO c0 m c2 c3 c4 c5)).alloc (sekO k1 k2)).alloc (tgtO 0 0)).alloc (sekO 0 0))) := ((((Kept.refl _ w).alloc _).alloc _).alloc _).alloc _
  have HF0 := Lib.hid (four_new w c0 m c2 c3 c4 c5 k1 k2)
  have hq : max 1 (m : Int) = ((Rw.times m : Nat) : Int) := by unfold Rw.times; omega
  have hq1 : 1 ≤ Rw.times m ∧ Rw.times m ≤ 999 := by unfold Rw.times; omega
  have hw : Rw.Line c3 := Rw.by_line.1 hkey
  have hgo : Rw.goM t k c3 c5 m k1 k2 M = (Rw.to t k c3 m).map fun (a : Nat) => ((a : Int), Rw.kd c3, k1, k2) := by
    unfold Rw.goM
    rw [if_neg (by rw [hkey]; decide), if_neg (by rw [hkey]; decide), if_neg (by rw [hkey]; decide), if_neg (by rw [hkey]; decide), if_neg (by rw [hkey]; decide), if_neg (by rw [hkey]; decide)]
  rw [hgo]
  have cWd := fun W => word_f (show ¬ Rw.Word c3 by unfold Rw.Word; unfold Rw.Line at hw; omega) W
  have cSk := fun W => Sk.seek_f (show ¬ Rw.Seek c3 by unfold Rw.Seek; unfold Rw.Line at hw; omega) W
  have cW := fun W (hk' : Kept (fun _ => False) w W) => rmove_yes (c := tc) (m := m) (k := k) c3 (hR.kept hk' (fun _ _ => id)) hr hk (by omega) hc hw
  have e59 : (c3 == 59) = false := beq_eq_false_iff_ne.2 (by unfold Rw.Line at hw; omega)
  have e44 : (c3 == 44) = false := beq_eq_false_iff_ne.2 (by unfold Rw.Line at hw; omega)
  have e123 : (c3 == 123) = false := beq_eq_false_iff_ne.2 (by unfold Rw.Line at hw; omega)
  have e125 : (c3 == 125) = false := beq_eq_false_iff_ne.2 (by unfold Rw.Line at hw; omega)
  have e37 : (c3 == 37) = false := beq_eq_false_iff_ne.2 (by unfold Rw.Line at hw; omega)
  have e39 : (c3 == 39) = false := beq_eq_false_iff_ne.2 (by unfold Rw.Line at hw; omega)
  have e96 : (c3 == 96) = false := beq_eq_false_iff_ne.2 (by unfold Rw.Line at hw; omega)
  obtain ⟨o, hoo⟩ : ∃ o, Rw.to t k c3 m = o := ⟨_, rfl⟩
  rw [hoo]
  simp only [hoo] at cW
  clear hR hr hgo hoo hA ho hkey hx hw
  generalize Rw.kd c3 = K at *
  generalize Rw.times m = q at *
  cases o with
  | none =>
    unfold ans tgt at cW
    simp only at cW
    · go_enter Tryz.func33, Tryz.ntmps33
      go_wp2_with (first
        | (go_at_call 61; refine (cWd _).mono ?_; rintro e w1 ⟨rfl, hk1⟩; have HK1 := Lib.hid (HK0.out.trans hk1); have HF1 := Lib.hid (HF0.out.kept hk1); obtain ⟨xa1, xb1, xc1, ⟨xd1, xe1, xf1, xg1⟩, ⟨xh1, xi1, xj1, xk1⟩, ⟨xl1, xm1, xn1, xo1⟩⟩ := HF1.out.facts; clear hk1)
        | (go_at_call 27; refine (cSk _).mono ?_; rintro e w2 ⟨rfl, hk2⟩; have HK2 := Lib.hid (HK1.out.trans hk2); have HF2 := Lib.hid (HF1.out.kept hk2); obtain ⟨xa2, xb2, xc2, ⟨xd2, xe2, xf2, xg2⟩, ⟨xh2, xi2, xj2, xk2⟩, ⟨xl2, xm2, xn2, xo2⟩⟩ := HF2.out.facts; clear hk2)
        | (go_at_call 32; refine (cW _ HK2.out).mono ?_; rintro e w3 ⟨rfl, hk3⟩; have HK3 := Lib.hid (HK2.out.trans hk3); have HF3 := Lib.hid (HF2.out.kept hk3); obtain ⟨xa3, xb3, xc3, ⟨xd3, xe3, xf3, xg3⟩, ⟨xh3, xi3, xj3, xk3⟩, ⟨xl3, xm3, xn3, xo3⟩⟩ := HF3.out.facts; clear hk3))
      have p0 : (w3.alloc (tgtO 0 0)).cell? ⟨w3.heap.size, 0, none⟩ = some (.int .i64 0) := cell_of_row _ _ _ _ _ _ (heap_alloc_new w3 _)
      have p1 : (w3.alloc (tgtO 0 0)).cell? ⟨w3.heap.size, 1, none⟩ = some (.int .i64 0) := cell_of_row _ _ _ _ _ _ (heap_alloc_new w3 _)
      have HX : Hid (Kept (fun _ => False) w3 (w3.alloc (tgtO 0 0))) := (Kept.refl _ w3).alloc _
      have HF4 := Lib.hid (HF3.out.kept HX.out)
      have HK4 := Lib.hid (HK3.out.trans HX.out)
      obtain ⟨xa4, xb4, xc4, ⟨xd4, xe4, xf4, xg4⟩, ⟨xh4, xi4, xj4, xk4⟩, ⟨xl4, xm4, xn4, xo4⟩⟩ := HF4.out.facts
      go_quiet (fail)
      go_wp2_with (first
        | fail)
      obtain ⟨W5, hW5⟩ : ∃ W, W = w3 := ⟨_, rfl⟩
      have FF := (((HF4.out.kept ((Kept.refl (fun _ => False) (w3.alloc (tgtO 0 0))).drewN nq)).setT 0 0).setX 0 0)
      have KK := (Kept.pair (g := w.heap.size + 1 + 1 + 1) (Kept.pair (g := w.heap.size + 1 + 1) (Kept.refl (fun q => q = w.heap.size + 1 ∨ q = w.heap.size + 1 + 1 ∨ q = w.heap.size + 1 + 1 + 1) ((w3.alloc (tgtO 0 0)).drewN nq)) (.inr (.inl rfl)) (.int .i64 0) (.int .i64 0)) (.inr (.inr rfl)) (.int .i64 0) (.int .i64 0))
      refine bodyPost_ret (res_go rfl _ _ (w.heap.size + 1 + 1) (w.heap.size + 1 + 1 + 1) 0 0 0 0 rfl rfl ?_ ?_) rfl ⟨rfl, ?_⟩
      · exact FF.c
      · exact FF.d
      · exact (HK4.out.drewN nq).fresh KK (fun q hq e => by omega)
  | some a =>
    unfold ans tgt at cW
    simp only at cW
    · go_enter Tryz.func33, Tryz.ntmps33
      go_wp2_with (first
        | (go_at_call 61; refine (cWd _).mono ?_; rintro e w1 ⟨rfl, hk1⟩; have HK1 := Lib.hid (HK0.out.trans hk1); have HF1 := Lib.hid (HF0.out.kept hk1); obtain ⟨xa1, xb1, xc1, ⟨xd1, xe1, xf1, xg1⟩, ⟨xh1, xi1, xj1, xk1⟩, ⟨xl1, xm1, xn1, xo1⟩⟩ := HF1.out.facts; clear hk1)
        | (go_at_call 27; refine (cSk _).mono ?_; rintro e w2 ⟨rfl, hk2⟩; have HK2 := Lib.hid (HK1.out.trans hk2); have HF2 := Lib.hid (HF1.out.kept hk2); obtain ⟨xa2, xb2, xc2, ⟨xd2, xe2, xf2, xg2⟩, ⟨xh2, xi2, xj2, xk2⟩, ⟨xl2, xm2, xn2, xo2⟩⟩ := HF2.out.facts; clear hk2)
        | (go_at_call 32; refine (cW _ HK2.out).mono ?_; rintro e w3 ⟨rfl, hk3⟩; have HK3 := Lib.hid (HK2.out.trans hk3); have HF3 := Lib.hid (HF2.out.kept hk3); obtain ⟨xa3, xb3, xc3, ⟨xd3, xe3, xf3, xg3⟩, ⟨xh3, xi3, xj3, xk3⟩, ⟨xl3, xm3, xn3, xo3⟩⟩ := HF3.out.facts; clear hk3))
      have p0 : (w3.alloc (tgtO a K)).cell? ⟨w3.heap.size, 0, none⟩ = some (.int .i64 a) := cell_of_row _ _ _ _ _ _ (heap_alloc_new w3 _)
      have p1 : (w3.alloc (tgtO a K)).cell? ⟨w3.heap.size, 1, none⟩ = some (.int .i64 K) := cell_of_row _ _ _ _ _ _ (heap_alloc_new w3 _)
      have HX : Hid (Kept (fun _ => False) w3 (w3.alloc (tgtO a K))) := (Kept.refl _ w3).alloc _
      have HF4 := Lib.hid (HF3.out.kept HX.out)
      have HK4 := Lib.hid (HK3.out.trans HX.out)
      obtain ⟨xa4, xb4, xc4, ⟨xd4, xe4, xf4, xg4⟩, ⟨xh4, xi4, xj4, xk4⟩, ⟨xl4, xm4, xn4, xo4⟩⟩ := HF4.out.facts
      go_quiet (fail)
      go_wp2_with (first
        | fail)
      obtain ⟨W5, hW5⟩ : ∃ W, W = w3 := ⟨_, rfl⟩
      go_region
      all_goals
        try go_wp2
        have FF := (((HF4.out.kept ((Kept.refl (fun _ => False) (w3.alloc (tgtO a K))).drewN (nq + 1))).setT a K).setX k1 k2)
        have KK := (Kept.pair (g := w.heap.size + 1 + 1 + 1) (Kept.pair (g := w.heap.size + 1 + 1) (Kept.refl (fun q => q = w.heap.size + 1 ∨ q = w.heap.size + 1 + 1 ∨ q = w.heap.size + 1 + 1 + 1) ((w3.alloc (tgtO a K)).drewN (nq + 1))) (.inr (.inl rfl)) (.int .i64 a) (.int .i64 K)) (.inr (.inr rfl)) (.int .i64 k1) (.int .i64 k2))
        refine bodyPost_ret (res_go rfl _ _ (w.heap.size + 1 + 1) (w.heap.size + 1 + 1 + 1) a K k1 k2 rfl rfl ?_ ?_) rfl ⟨rfl, ?_⟩
        · exact FF.c
        · exact FF.d
        · exact (HK4.out.drewN (nq + 1)).fresh KK (fun q hq e => by omega)
end Go.Proofs.YtbofjefblhnkoaaGreatDoor
namespace Go.Proofs.YtbofjefblhnkoaaGreatDoor
open Go Go.RowKit

theorem kin_cases {key : Int} (h : Rw.kin key ≠ 0) : Rw.kin key = 1 ∨ Rw.kin key = 2 ∨ Rw.kin key = 3 ∨ Rw.kin key = 4 ∨ Rw.kin key = 5 ∨ Rw.kin key = 6 ∨ Rw.kin key = 7 := by
  unfold Rw.kin at *
  repeat' split at h
  all_goals simp_all
theorem pgo_yes (s : ByteArray) (k m : Nat) (c0 c2 c3 c4 c5 k1 k2 : Int) (A : Option Addr) (n c : Nat) (M : List (List Int)) (w : World) (hT : Tabs w) (hm : mayB s = true) (hk : k ≤ (rs s).length) (hc : m ≤ 999) (hx : k1 = 0 ∨ Rw.Seek k1) (hA : Rws w A n 2 M) (hn : n ≤ 100000) (ho : Rw.mOk M) (hkey : Rw.kin c3 ≠ 0) :
    Calls Tryz.prog 24 #[.string s, .int .i64 k, cmdV c0 m c2 c3 c4 c5, sekV k1 k2, .slice A n c] w fun e w' => e = .returned (goV (Rw.goM (rs s) k c3 c5 m k1 k2 M)) ∧ Kept (fun _ => False) w w' := by
  rcases kin_cases hkey with h | h | h | h | h | h | h
  · exact pgo_line s k m c0 c2 c3 c4 c5 k1 k2 A n c M w hT hm hk hc hx hA hn ho h
  · exact pgo_word s k m c0 c2 c3 c4 c5 k1 k2 A n c M w hT hm hk hc hx hA hn ho h
  · exact pgo_seek s k m c0 c2 c3 c4 c5 k1 k2 A n c M w hT hm hk hc hx hA hn ho h
  · by_cases h0 : k1 = 0
    · exact pgo_again0 s k m c0 c2 c3 c4 c5 k1 k2 A n c M w hT hm hk hc hx hA hn ho h h0
    · exact pgo_again1 s k m c0 c2 c3 c4 c5 k1 k2 A n c M w hT hm hk hc hx hA hn ho h h0
  · exact pgo_para s k m c0 c2 c3 c4 c5 k1 k2 A n c M w hT hm hk hc hx hA hn ho h
  · exact pgo_pair s k m c0 c2 c3 c4 c5 k1 k2 A n c M w hT hm hk hc hx hA hn ho h
  · exact pgo_mark s k m c0 c2 c3 c4 c5 k1 k2 A n c M w hT hm hk hc hx hA hn ho h
theorem rgo_yes (TA : Option Addr) (tc : Nat) (t : List Int) (k m : Nat) (c0 c2 c3 c4 c5 k1 k2 : Int) (A : Option Addr) (n c : Nat) (M : List (List Int)) (w : World) (hR : Rn w TA t.length t) (hr : Runey t) (hl : t.length ≤ 6000) (hk : k ≤ t.length) (hc : m ≤ 999) (hx : k1 = 0 ∨ Rw.Seek k1) (hA : Rws w A n 2 M) (hn : n ≤ 100000) (ho : Rw.mOk M) (hkey : Rw.kin c3 ≠ 0) :
    Calls Tryz.prog 33 #[.slice TA t.length tc, .int .i64 k, cmdV c0 m c2 c3 c4 c5, sekV k1 k2, .slice A n c] w fun e w' => e = .returned (goV (Rw.goM t k c3 c5 m k1 k2 M)) ∧ Kept (fun _ => False) w w' := by
  rcases kin_cases hkey with h | h | h | h | h | h | h
  · exact rgo_line TA tc t k m c0 c2 c3 c4 c5 k1 k2 A n c M w hR hr hl hk hc hx hA hn ho h
  · exact rgo_word TA tc t k m c0 c2 c3 c4 c5 k1 k2 A n c M w hR hr hl hk hc hx hA hn ho h
  · exact rgo_seek TA tc t k m c0 c2 c3 c4 c5 k1 k2 A n c M w hR hr hl hk hc hx hA hn ho h
  · exact rgo_again TA tc t k m c0 c2 c3 c4 c5 k1 k2 A n c M w hR hr hl hk hc hx hA hn ho h
  · exact rgo_para TA tc t k m c0 c2 c3 c4 c5 k1 k2 A n c M w hR hr hl hk hc hx hA hn ho h
  · exact rgo_pair TA tc t k m c0 c2 c3 c4 c5 k1 k2 A n c M w hR hr hl hk hc hx hA hn ho h
  · exact rgo_mark TA tc t k m c0 c2 c3 c4 c5 k1 k2 A n c M w hR hr hl hk hc hx hA hn ho h
end Go.Proofs.YtbofjefblhnkoaaGreatDoor
namespace Go.Proofs.YtbofjefblhnkoaaGreatDoor
open Go Go.RowKit

/-- The blocks of a command and of what was sought. -/
structure Par (W : World) (B : Nat) (c0 c1 c2 c3 c4 c5 k1 k2 : Int) : Prop where
  a : W.heap[B]? = some (cmdO c0 c1 c2 c3 c4 c5)
  b : W.heap[B + 1]? = some (sekO k1 k2)
theorem Par.kept {W W' : World} {B : Nat} {c0 c1 c2 c3 c4 c5 k1 k2 : Int} (h : Par W B c0 c1 c2 c3 c4 c5 k1 k2) (hk : Kept (fun _ => False) W W') : Par W' B c0 c1 c2 c3 c4 c5 k1 k2 :=
  ⟨(hk.block _ (heap_lt h.a) id).trans h.a, (hk.block _ (heap_lt h.b) id).trans h.b⟩
theorem Par.facts {W : World} {B : Nat} {c0 c1 c2 c3 c4 c5 k1 k2 : Int} (h : Par W B c0 c1 c2 c3 c4 c5 k1 k2) : W.cell? ⟨B, 0, none⟩ = some (.int .i64 c0) ∧ W.cell? ⟨B, 1, none⟩ = some (.int .i64 c1) ∧ W.cell? ⟨B, 2, none⟩ = some (.int .i64 c2) ∧ W.cell? ⟨B, 3, none⟩ = some (.int .i64 c3) ∧ W.cell? ⟨B, 4, none⟩ = some (.int .i64 c4) ∧ W.cell? ⟨B, 5, none⟩ = some (.int .i64 c5) ∧ W.cell? ⟨B + 1, 0, none⟩ = some (.int .i64 k1) ∧ W.cell? ⟨B + 1, 1, none⟩ = some (.int .i64 k2) :=
  ⟨by rw [cell_of_row _ _ _ _ _ _ h.a]; rfl, by rw [cell_of_row _ _ _ _ _ _ h.a]; rfl, by rw [cell_of_row _ _ _ _ _ _ h.a]; rfl, by rw [cell_of_row _ _ _ _ _ _ h.a]; rfl, by rw [cell_of_row _ _ _ _ _ _ h.a]; rfl, by rw [cell_of_row _ _ _ _ _ _ h.a]; rfl, by rw [cell_of_row _ _ _ _ _ _ h.b]; rfl, by rw [cell_of_row _ _ _ _ _ _ h.b]; rfl⟩
theorem par_new (w : World) (c0 c1 c2 c3 c4 c5 k1 k2 : Int) : Par ((w.alloc (cmdO c0 c1 c2 c3 c4 c5)).alloc (sekO k1 k2)) w.heap.size c0 c1 c2 c3 c4 c5 k1 k2 := by
  have a1 := heap_alloc_new w (cmdO c0 c1 c2 c3 c4 c5)
  have b1 := heap_alloc_new (w.alloc (cmdO c0 c1 c2 c3 c4 c5)) (sekO k1 k2)
  have ka := (Kept.refl (fun _ => False) (w.alloc (cmdO c0 c1 c2 c3 c4 c5))).alloc (sekO k1 k2)
  exact ⟨(ka.block _ (heap_lt a1) id).trans a1, by simpa using b1⟩
/-- The blocks of two answers. -/
structure Res (W : World) (g : Nat) (a b x y a' b' x' y' : Int) : Prop where
  p : W.heap[g]? = some (tgtO a b)
  q : W.heap[g + 1]? = some (sekO x y)
  r : W.heap[g + 1 + 1]? = some (tgtO a' b')
  s : W.heap[g + 1 + 1 + 1]? = some (sekO x' y')
section
variable {W W' : World} {g : Nat} {a b x y a' b' x' y' : Int}
theorem Res.kept (h : Res W g a b x y a' b' x' y') (hk : Kept (fun _ => False) W W') : Res W' g a b x y a' b' x' y' :=
  ⟨(hk.block _ (heap_lt h.p) id).trans h.p, (hk.block _ (heap_lt h.q) id).trans h.q, (hk.block _ (heap_lt h.r) id).trans h.r, (hk.block _ (heap_lt h.s) id).trans h.s⟩
theorem Res.setT (h : Res W g a b x y a' b' x' y') (u v : Int) : Res ((W.setCell ⟨g + 1 + 1, 0, none⟩ (.int .i64 u)).setCell ⟨g + 1 + 1, 1, none⟩ (.int .i64 v)) g a b x y u v x' y' :=
  ⟨(heap_far (by omega) _).trans ((heap_far (by omega) _).trans h.p), (heap_far (by omega) _).trans ((heap_far (by omega) _).trans h.q), set_two h.r _ _, (heap_far (by omega) _).trans ((heap_far (by omega) _).trans h.s)⟩
theorem Res.setX (h : Res W g a b x y a' b' x' y') (u v : Int) : Res ((W.setCell ⟨g + 1 + 1 + 1, 0, none⟩ (.int .i64 u)).setCell ⟨g + 1 + 1 + 1, 1, none⟩ (.int .i64 v)) g a b x y a' b' u v :=
  ⟨(heap_far (by omega) _).trans ((heap_far (by omega) _).trans h.p), (heap_far (by omega) _).trans ((heap_far (by omega) _).trans h.q), (heap_far (by omega) _).trans ((heap_far (by omega) _).trans h.r), set_two h.s _ _⟩
theorem Res.facts (h : Res W g a b x y a' b' x' y') : (W.cell? ⟨g, 0, none⟩ = some (.int .i64 a) ∧ W.cell? ⟨g, 1, none⟩ = some (.int .i64 b) ∧ W.cell? ⟨g + 1, 0, none⟩ = some (.int .i64 x) ∧ W.cell? ⟨g + 1, 1, none⟩ = some (.int .i64 y)) ∧
    (W.cell? ⟨g + 1 + 1, 0, none⟩ = some (.int .i64 a') ∧ W.cell? ⟨g + 1 + 1, 1, none⟩ = some (.int .i64 b') ∧ W.frozen? ⟨g + 1 + 1, 0, none⟩ = false ∧ W.frozen? ⟨g + 1 + 1, 1, none⟩ = false) ∧
    (W.cell? ⟨g + 1 + 1 + 1, 0, none⟩ = some (.int .i64 x') ∧ W.cell? ⟨g + 1 + 1 + 1, 1, none⟩ = some (.int .i64 y') ∧ W.frozen? ⟨g + 1 + 1 + 1, 0, none⟩ = false ∧ W.frozen? ⟨g + 1 + 1 + 1, 1, none⟩ = false) :=
  ⟨⟨(two_facts h.p).1, (two_facts h.p).2.1, (two_facts h.q).1, (two_facts h.q).2.1⟩, two_facts h.r, two_facts h.s⟩
end
theorem res_new (w : World) (a b x y : Int) : Res ((((w.alloc (tgtO a b)).alloc (sekO x y)).alloc (tgtO 0 0)).alloc (sekO 0 0)) w.heap.size a b x y 0 0 0 0 := by
  have a1 := heap_alloc_new w (tgtO a b)
  have b1 := heap_alloc_new (w.alloc (tgtO a b)) (sekO x y)
  have c1' := heap_alloc_new ((w.alloc (tgtO a b)).alloc (sekO x y)) (tgtO 0 0)
  have d1 := heap_alloc_new (((w.alloc (tgtO a b)).alloc (sekO x y)).alloc (tgtO 0 0)) (sekO 0 0)
  have ka := ((Kept.refl (fun _ => False) (w.alloc (tgtO a b))).alloc (sekO x y)).alloc (tgtO 0 0) |>.alloc (sekO 0 0)
  have kb := ((Kept.refl (fun _ => False) ((w.alloc (tgtO a b)).alloc (sekO x y))).alloc (tgtO 0 0)).alloc (sekO 0 0)
  have kc := (Kept.refl (fun _ => False) (((w.alloc (tgtO a b)).alloc (sekO x y)).alloc (tgtO 0 0))).alloc (sekO 0 0)
  refine ⟨(ka.block _ (heap_lt a1) id).trans a1, ?_, ?_, ?_⟩
  · have := (kb.block _ (heap_lt b1) id).trans b1
    simpa using this
  · have := (kc.block _ (heap_lt c1') id).trans c1'
    simpa using this
  · simpa using d1
end Go.Proofs.YtbofjefblhnkoaaGreatDoor
