/-
  REGISTERS: set.
-/
import Derived.Test.YtackgnkajffhiaaDoorRsJ
import Derived.BigQuiet
set_option linter.unusedVariables false
namespace Go.Proofs.YtackgnkajffhiaaDoor
open Go Go.RowKit

theorem put_len (M : List RegS) (r : RegS) : (Rs.put M r).length = (Rs.wo M r.n).length + 1 := by
  unfold Rs.put
  have := Rs.below_le (Rs.wo M r.n) r.n
  rw [List.length_append, List.length_take, List.length_cons, List.length_drop]
  omega
theorem below_hit {X : List RegS} {k : Nat} {q : RegS} {z : Int} (hk : k ≤ Rs.below X z) (hq : X[k]? = some q) (h : q.n < z) : k + 1 ≤ Rs.below X z := by
  by_cases he : k = Rs.below X z
  · subst he
    exact absurd h (Rs.below_at hq)
  · omega
theorem below_miss {X : List RegS} {k : Nat} {q : RegS} {z : Int} (hk : k ≤ Rs.below X z) (hq : X[k]? = some q) (h : ¬ q.n < z) : k = Rs.below X z := by
  by_cases he : k < Rs.below X z
  · exact absurd (Rs.below_lt he hq) h
  · omega
set_option maxRecDepth 100000 in
set_option maxHeartbeats 4000000 in
theorem set_any (A : Option Addr) (n c : Nat) (M : List RegS) (r : RegS) (w : World) (hA : Rg w A n M) (hn : n ≤ 100000) :
    Calls Tryd.prog 27 #[.slice A n c, regV r] w fun e w' => (∃ g, e = .returned (.slice (some ⟨g, 0, none⟩) (Rs.put M r).length (n + 1)) ∧ Rm w' g (n + 1) (Rs.put M r) ∧ w.heap.size ≤ g) ∧ Kept (fun _ => False) w w' := by
  have hk0 : Kept (fun _ => False) w (w.alloc (regO r)) := (Kept.refl _ w).alloc _
  have hbx : Rg3 (w.alloc (regO r)) ⟨w.heap.size, 0, none⟩ r := rg3_new
  have cW := without_any A n c M r.n _ (hA.kept hk0 (fun _ _ => id)) hn
  obtain ⟨X, hX⟩ : ∃ X, Rs.wo M r.n = X := ⟨_, rfl⟩
  have hl := Rs.wo_len M r.n
  rw [hA.len] at hl
  have hsz : ∀ q ∈ X, q.s.size ≤ 140737488351232 := fun q hq => hA.sz q (by rw [← hX] at hq; exact (List.mem_filter.1 hq).1)
  have hpl := put_len M r
  have hpe : Rs.put M r = X.take (Rs.below X r.n) ++ r :: X.drop (Rs.below X r.n) := by rw [← hX]; rfl
  rw [hX] at cW hl hpl
  have HPE := Lib.hid hpe
  obtain ⟨N, hN⟩ : ∃ N, X.length = N := ⟨_, rfl⟩
  rw [hN] at cW hl hpl
  rw [hpl]
  have HN := Lib.hid hN
  have HSZ := Lib.hid hsz
  have HK0 := Lib.hid hk0
  have HBX := Lib.hid hbx
  have hsw : w.heap.size < (w.alloc (regO r)).heap.size := heap_lt (heap_alloc_new w _)
  clear hA hk0 hbx hX hsz hpl hpe hN
  go_enter Tryd.func27, Tryd.ntmps27
  go_upto_region 1 with fail
  simp only [regO] at cW HK0 HBX hsw
  generalize w.alloc (.cells #[.int .i64 r.n, .string r.s, .bool r.b] 41) = w1 at *
  generalize hrb : w.heap.size = rb at *
  have HRB := Lib.hid hrb
  clear hrb
  obtain ⟨x0, x1, x2⟩ := HBX.out.cs
  go_upto_region 2 with (go_at_call 43; refine cW.mono ?_; rintro e w2 ⟨⟨g, he, hrm, hge⟩, hk2⟩; obtain ⟨ad, had⟩ : ∃ ad : Addr, (⟨g, 0, none⟩ : Addr) = ad := ⟨_, rfl⟩; rw [had] at he; subst he; have HAD := Lib.hid had; have HRM := Lib.hid hrm; have HK2 := Lib.hid hk2; clear had hrm hk2 cW x0 x1 x2)
  have HRG := Lib.hid (HRM.out.rg HN.out HSZ.out)
  rw [HAD.out] at HRG
  go_wp2_with fail
  go_loopw [6] (fun v wr => ∃ k : Nat, k ≤ Rs.below X r.n ∧ v = .int .i64 k ∧ Kept (fun _ => False) w2 wr) (fun v _ => N - (intOf v).toNat)
  case atStart => exact ⟨0, Nat.zero_le _, rfl, Kept.refl _ _⟩
  case round =>
    obtain ⟨k, hk, rfl, hkept⟩ := hrel
    have HK := Lib.hid hkept
    have HB := Lib.hid hk
    have hkN : k ≤ N := by have := Rs.below_le X r.n; have := HN.out; omega
    clear hkept hk
    obtain ⟨x0, x1, x2⟩ := (HBX.out.kept (HK2.out.trans HK.out) id).cs
    have hend : k = Rs.below X r.n → X.take k ++ r :: X.drop k = Rs.put M r := fun h => by rw [HPE.out, h]
    have HEND := Lib.hid hend
    clear hend
    have t1 : (0 : Int) ≤ (k : Int) := by omega
    by_cases hlt : k < N
    · obtain ⟨ad', q, he, hq, h3, _⟩ := (HRG.out.kept HK.out (fun _ _ => id)).at_ hlt
      injection he with he
      subst he
      have b1 : decide (k < N) = true := decide_eq_true hlt
      have b2 : decide ((k : Int) < (N : Int)) = true := decide_eq_true (by omega)
      have t2 : (k : Int) < (N : Int) := by omega
      have c0 := h3.c0
      clear h3
      by_cases hx : q.n < r.n
      · have b3 : decide (q.n < r.n) = true := decide_eq_true hx
        have HH := Lib.hid (below_hit HB.out hq hx)
        clear hx hq
        go_wp2_with fail
        go_quiet (fail)
        go_wp2_with fail
        go_roundw
        case rel => exact ⟨k + 1, HH.out, by go_num, HK.out.drewN _⟩
        case measure => simp [intOf] <;> omega
      · have b3 : decide (q.n < r.n) = false := decide_eq_false hx
        have HE := Lib.hid (HEND.out (below_miss HB.out hq hx))
        clear hx hq
        go_wp2_with fail
        go_quiet (fail)
        obtain ⟨W5, hW5⟩ : ∃ W5, wr.drewN nq = W5 := ⟨_, rfl⟩
        have hk5 : Kept (fun _ => False) w2 W5 := by rw [← hW5]; exact HK.out.drewN _
        have HR5 := Lib.hid (HRM.out.kept hk5 id)
        have HK5 := Lib.hid hk5
        rw [hW5]
        clear hW5 hk5 x0 x1 x2 c0
        obtain ⟨x0, x1, x2⟩ := (HBX.out.kept (HK2.out.trans HK5.out) id).cs
        have had := HAD.out
        subst had
        go_wp2_with (go_at_call 44; refine (insert_any _ g (n + 1) N k _ X r (HR5.out.kept ((Kept.refl (fun _ => False) _).alloc _) id) HN.out hkN (by omega) (by omega) (Nat.ne_of_gt HR5.out.lt) (heap_alloc_new _ _)).mono ?_; rintro e w6 ⟨⟨rfl, hrm6⟩, hk6⟩; have HR6 := Lib.hid hrm6; have HK6 := Lib.hid hk6; clear hrm6 hk6)
        go_ret
        exact ⟨⟨g, rfl, by rw [← HE.out]; exact HR6.out, by have := HRB.out; omega⟩, ((HK0.out.trans HK2.out).trans (HK5.out.alloc _)).fresh HK6.out (fun q hq e => by have e : q = g := e; have := HRB.out; omega)⟩
    · obtain rfl : k = N := by omega
      have b1 : decide (k < k) = false := decide_eq_false (by omega)
      have b2 : decide ((k : Int) < (k : Int)) = false := decide_eq_false (by omega)
      have HE := Lib.hid (HEND.out (by have := Rs.below_le X r.n; have := HN.out; have := HB.out; omega))
      go_wp2_with fail
      go_quiet (fail)
      obtain ⟨W5, hW5⟩ : ∃ W5, wr.drewN nq = W5 := ⟨_, rfl⟩
      have hk5 : Kept (fun _ => False) w2 W5 := by rw [← hW5]; exact HK.out.drewN _
      have HR5 := Lib.hid (HRM.out.kept hk5 id)
      have HK5 := Lib.hid hk5
      rw [hW5]
      clear hW5 hk5 x0 x1 x2
      obtain ⟨x0, x1, x2⟩ := (HBX.out.kept (HK2.out.trans HK5.out) id).cs
      have had := HAD.out
      subst had
      go_wp2_with (go_at_call 44; refine (insert_any _ g (n + 1) k k _ X r (HR5.out.kept ((Kept.refl (fun _ => False) _).alloc _) id) HN.out hkN (by omega) (by omega) (Nat.ne_of_gt HR5.out.lt) (heap_alloc_new _ _)).mono ?_; rintro e w6 ⟨⟨rfl, hrm6⟩, hk6⟩; have HR6 := Lib.hid hrm6; have HK6 := Lib.hid hk6; clear hrm6 hk6)
      go_ret
      exact ⟨⟨g, rfl, by rw [← HE.out]; exact HR6.out, by have := HRB.out; omega⟩, ((HK0.out.trans HK2.out).trans (HK5.out.alloc _)).fresh HK6.out (fun q hq e => by have e : q = g := e; have := HRB.out; omega)⟩
end Go.Proofs.YtackgnkajffhiaaDoor
