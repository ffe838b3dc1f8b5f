/-
  COMMANDS OF SINGLE RUNES, THE PROGRAM's: J.
-/
import Derived.Test.YtkeojjojilfklaaDoorSmJP
import Derived.Deep.CutRange
set_option linter.unusedVariables false
namespace Go.Proofs.YtkeojjojilfklaaDoor
open Go Go.RowKit

theorem concat_three (pb : Nat) (a1 a2 a3 : Addr) (n1 c1 n2 c2 n3 c3 : Nat) (t1 t2 t3 : List Int) (fr : Nat × Nat) (w : World) (hb : w.heap[pb]? = some (.cells #[.slice (some a1) n1 c1, .slice (some a2) n2 c2, .slice (some a3) n3 c3] 31 fr)) (h1 : Rn w (some a1) n1 t1) (h2 : Rn w (some a2) n2 t2) (h3 : Rn w (some a3) n3 t3) (hn : n1 + n2 + n3 ≤ 100000) :
    Calls Tryd.prog 77 #[.slice (some ⟨pb, 0, none⟩) 3 3] w fun e w' => Kept (fun _ => False) w w' ∧ ∃ A cap, e = .returned (.slice A (n1 + n2 + n3 : Nat) cap) ∧ n1 + n2 + n3 ≤ cap ∧ Rn w' A (n1 + n2 + n3) (t1 ++ t2 ++ t3) := by
  have hfl : flat [(a1, n1, c1, t1), (a2, n2, c2, t2), (a3, n3, c3, t3)] = t1 ++ t2 ++ t3 := by simp [flat]
  have hlen : (t1 ++ t2 ++ t3).length = n1 + n2 + n3 := by rw [List.length_append, List.length_append, h1.1, h2.1, h3.1]
  have hp : Parts w pb [(a1, n1, c1, t1), (a2, n2, c2, t2), (a3, n3, c3, t3)] := fun j p hj => by
    match j, hj with
    | 0, hj => injection hj with hj; subst hj; exact ⟨by rw [cell_of_row _ _ _ _ _ _ hb]; rfl, h1⟩
    | 1, hj => injection hj with hj; subst hj; exact ⟨by rw [cell_of_row _ _ _ _ _ _ hb]; rfl, h2⟩
    | 2, hj => injection hj with hj; subst hj; exact ⟨by rw [cell_of_row _ _ _ _ _ _ hb]; rfl, h3⟩
    | _ + 3, hj => cases hj
  have := concat_any pb 3 _ w hp rfl (by omega) (by rw [hfl, hlen]; exact hn)
  rw [hfl, hlen] at this
  exact this
theorem rn_one (w : World) (r : Int) : Rn (w.alloc (.cells #[.int .i32 r] 21)) (some ⟨w.heap.size, 0, none⟩) 1 [r] := by
  refine ⟨rfl, fun j x hj => ⟨_, rfl, ?_⟩⟩
  rw [addr_add, cell_of_row _ _ _ _ _ _ (heap_alloc_new w _)]
  match j, hj with
  | 0, hj => injection hj with hj; subst hj; rfl
  | _ + 1, hj => cases hj
set_option maxRecDepth 100000 in
set_option maxHeartbeats 2000000 in
theorem join_any (ad : Addr) (n c : Nat) (u : List Int) (k : Nat) (G : Bool) (w : World) (hA : Rn w (some ad) n u) (hr : Runey u) (hn : n ≤ 4000) (hc : n ≤ c) (hk : k ≤ n) (he : Rw.en u k < n) (hG : G = true ↔ Rw.glu u k) :
    Calls Tryd.prog 81 #[.slice (some ad) n c, .int .i64 (Rw.beg u k : Nat), .int .i64 (Rw.en u k : Nat)] w fun e w' => Kept (fun _ => False) w w' ∧ ∃ A cap, e = .returned (.slice A (Rw.jn u k G).length cap) ∧ (Rw.jn u k G).length ≤ cap ∧ Rn w' A (Rw.jn u k G).length (Rw.jn u k G) := by
  have hun := hA.1
  have hel : Rw.en u k < u.length := by omega
  obtain ⟨hn1, hn2, hn3⟩ := Rw.nx_le u k hel
  have hnh := Rw.nx_high u k hel
  have hbe : Rw.beg u k ≤ Rw.en u k := Nat.le_trans (Rw.beg_le u k) (Rw.en_ge u k)
  have cF := first_any (some ad) n c u (Rw.en u k + 1) w hA hr (by omega) (by omega)
  have cR := row_any (some ad) n c u (Rw.en u k + 1) w hA (by omega) (by omega)
  rw [Rw.nx_fst u k hel] at cF
  have HJ : Hid (Rw.jn u k G = u.take (Rw.en u k) ++ (if G then [] else [32]) ++ u.drop (Rw.nx u k)) := rfl
  have HJL := Lib.hid (Rw.jn_len u k G hel)
  have hgl : Rw.glu u k ↔ (Rw.beg u k = Rw.en u k ∨ (∃ x, u[Rw.en u k - 1]? = some x ∧ Rw.cls x = 0) ∨ Rw.nx u k = Rw.en u (Rw.en u k + 1) ∨ u[Rw.nx u k]? = some 41) := Iff.rfl
  generalize Rw.jn u k G = J at *
  generalize Rw.beg u (Rw.en u k + 1) = B2 at *
  generalize Rw.en u (Rw.en u k + 1) = H at *
  generalize Rw.nx u k = X at *
  generalize Rw.glu u k = GL at *
  generalize Rw.beg u k = B at *
  generalize Rw.en u k = En at *
  generalize hJn : J.length = N at *
  have HA := Lib.hid hA
  have HR := Lib.hid hr
  have HG := Lib.hid hG
  have HGL := Lib.hid hgl
  have HNH := Lib.hid hnh
  have hw1 : IntKind.i64.wrap ((En : Int) + 1) = ((En + 1 : Nat) : Int) := by rw [IntWalk.i64_in _ ⟨by omega, by omega⟩]; omega
  clear hA hr hG hgl hnh hJn
  go_enter Tryd.func81, Tryd.ntmps81
  go_upto_region 3 with (first
    | (go_at_call 87; refine cF.mono ?_; rintro e w2 ⟨rfl, hw⟩; have hw3 := hw.symm; subst hw3)
    | (go_at_call 53; refine cR.mono ?_; rintro e w2 ⟨rfl, hw⟩; have hw3 := hw.symm; subst hw3))
  clear cF cR hw1
  go_cut [43] from 10 to 60 (fun v wx => v = .bool G ∧ wx = w)
  case first =>
    by_cases h1 : B = En
    · obtain rfl : G = true := HG.out.2 (HGL.out.2 (.inl h1))
      subst h1
      clear HGL HG HNH HJL HJ
      go_wp2
      go_meet
      exact ⟨rfl, rfl⟩
    · have d1 : ((B : Int) == (En : Int)) = false := by rw [beq_eq_false_iff_ne]; omega
      have d1' : ((B : Nat) == (En : Nat)) = false := by rw [beq_eq_false_iff_ne]; omega
      have hw2 : IntKind.i64.wrap ((En : Int) - 1) = ((En - 1 : Nat) : Int) := by rw [IntWalk.i64_in _ ⟨by omega, by omega⟩]; omega
      obtain ⟨_, x, e1, hx, cx⟩ := HA.out.cell (j := En - 1) (by omega)
      injection e1 with e1
      subst e1
      obtain ⟨x1, x2⟩ := HR.out.at_ hx
      have cB := fun w => blank_any x ⟨x1, x2⟩ w
      have i1 : (0 : Int) ≤ ((En - 1 : Nat) : Int) := by omega
      have i2 : ((En - 1 : Nat) : Int) < (n : Int) := by omega
      have HX := Lib.hid hx
      clear hx
      by_cases h2 : Rw.cls x = 0
      · obtain rfl : G = true := HG.out.2 (HGL.out.2 (.inr (.inl ⟨x, HX.out, h2⟩)))
        have d2 : (Rw.cls x == 0) = true := by rw [h2]; rfl
        clear HGL HG HNH HJL HJ h1 h2
        simp only [d2] at cB
        clear d2
        generalize En - 1 = E1 at *
        go_wp2_with (go_at_call 89; refine (cB _).mono ?_; rintro e w2 ⟨rfl, hw⟩; have hw3 := hw.symm; subst hw3)
        go_meet
        exact ⟨rfl, rfl⟩
      · have d2 : (Rw.cls x == 0) = false := by rw [beq_eq_false_iff_ne]; exact h2
        simp only [d2] at cB
        clear d2
        by_cases h3 : X = H
        · obtain rfl : G = true := HG.out.2 (HGL.out.2 (.inr (.inr (.inl h3))))
          subst h3
          clear HGL HG HNH HJL HJ h1 h2
          generalize En - 1 = E1 at *
          go_wp2_with (go_at_call 89; refine (cB _).mono ?_; rintro e w2 ⟨rfl, hw⟩; have hw3 := hw.symm; subst hw3)
          go_meet
          exact ⟨rfl, rfl⟩
        · have d3 : ((X : Int) == (H : Int)) = false := by rw [beq_eq_false_iff_ne]; omega
          have d3' : ((X : Nat) == (H : Nat)) = false := by rw [beq_eq_false_iff_ne]; omega
          obtain ⟨_, y, e1, hy, cy⟩ := HA.out.cell (j := X) (by have := HNH.out; omega)
          injection e1 with e1
          subst e1
          have i3 : (0 : Int) ≤ (X : Int) := by omega
          have i4 : (X : Int) < (n : Int) := by omega
          have hgy : G = (y == 41) := by
            by_cases h4 : y = 41
            · rw [HG.out.2 (HGL.out.2 (.inr (.inr (.inr (by rw [hy, h4])))))]
              rw [h4]; rfl
            · have : (y == 41) = false := by rw [beq_eq_false_iff_ne]; exact h4
              rw [this]
              refine bool_no HG.out fun hg => ?_
              rcases HGL.out.1 hg with h | ⟨x', hx', hc'⟩ | h | h
              · exact h1 h
              · rw [HX.out] at hx'; injection hx' with hx'; subst hx'; exact h2 hc'
              · exact h3 h
              · rw [hy] at h; injection h with h; exact h4 h
          subst hgy
          clear HGL HG HNH HJL HJ h1 h2 h3 hy
          generalize En - 1 = E1 at *
          go_wp2_with (go_at_call 89; refine (cB _).mono ?_; rintro e w2 ⟨rfl, hw⟩; have hw3 := hw.symm; subst hw3)
          go_meet
          exact ⟨rfl, rfl⟩
  case rest =>
    obtain ⟨rfl, hw⟩ := hcut
    have hw3 := hw.symm
    subst hw3
    have hcA := fun u' => run_cut_h u' (some ad) n c En (En : Int) rfl (by omega)
    have hcC := fun u' => run_cut_l u' (some ad) n c X (X : Int) rfl (by omega) hc
    have HRA : Hid (∀ W, Kept (fun _ => False) w W → Rn W (some ad) En (u.take En)) := fun W h => (HA.out.kept h (fun _ _ => id)).take (by omega)
    have HRC : Hid (∀ W, Kept (fun _ => False) w W → Rn W (cutB (some ad) c X) (n - X) (u.drop X)) := fun W h => (HA.out.kept h (fun _ _ => id)).drop (by omega) hc
    obtain ⟨ad2, had⟩ := cutB_some ad c X
    rw [cutB_zero] at hcA
    rw [had] at hcC HRC
    clear had
    cases G with
    | true =>
      have HN : Hid (N = En + (n - X)) := by have h := HJL.out; rw [if_pos rfl] at h; show _ = _; omega
      have HJ2 : Hid (J = u.take En ++ u.drop X) := by have := HJ.out; simp at this; exact this
      have k1 : Kept (fun _ => False) w (w.alloc (.cells #[.slice (some ad) En c, .slice (some ad2) (n - X) (c - X)] 31)).drew := ((Kept.refl _ w).alloc _).drew
      have c1 := concat_two w.heap.size ad ad2 En c (n - X) (c - X) _ _ (0, 0) _ (heap_drew' (heap_alloc_new w (.cells #[.slice (some ad) En c, .slice (some ad2) (n - X) (c - X)] 31))) (HRA.out _ k1) (HRC.out _ k1) (by omega)
      rw [← HN.out, ← HJ2.out] at c1
      clear HJL HJ
      go_upto_region 4 with fail
      go_region_held3 (fun (w' : World) => True) (exact trivial) ((go_at_call 77; refine c1.mono ?_; rintro e w2 ⟨hk2, A, cp, rfl, hcp, hR2⟩; have HR2 := Lib.hid hR2; have HK2 := Lib.hid (k1.trans hk2); have HCP := Lib.hid hcp; clear hR2 hk2 hcp))
      all_goals
        go_wp2_with fail
        go_ret
        exact ⟨HK2.out, A, cp, rfl, HCP.out, HR2.out⟩
    | false =>
      have HN : Hid (N = En + 1 + (n - X)) := by have h := HJL.out; rw [if_neg (by decide)] at h; show _ = _; omega
      have HJ2 : Hid (J = u.take En ++ [32] ++ u.drop X) := by have := HJ.out; simp at this; simp; exact this
      have k0 : Kept (fun _ => False) w (w.alloc (.cells #[.int .i32 32] 21)) := (Kept.refl _ w).alloc _
      have hz : (w.alloc (.cells #[.int .i32 32] 21)).heap.size = w.heap.size + 1 := by simp
      have k1 : Kept (fun _ => False) w ((w.alloc (.cells #[.int .i32 32] 21)).alloc (.cells #[.slice (some ad) En c, .slice (some ⟨w.heap.size, 0, none⟩) 1 1, .slice (some ad2) (n - X) (c - X)] 31)).drew := (k0.alloc _).drew
      have hnew := heap_alloc_new (w.alloc (.cells #[.int .i32 32] 21)) (.cells #[.slice (some ad) En c, .slice (some ⟨w.heap.size, 0, none⟩) 1 1, .slice (some ad2) (n - X) (c - X)] 31)
      have hone : Rn ((w.alloc (.cells #[.int .i32 32] 21)).alloc (.cells #[.slice (some ad) En c, .slice (some ⟨w.heap.size, 0, none⟩) 1 1, .slice (some ad2) (n - X) (c - X)] 31)).drew (some ⟨w.heap.size, 0, none⟩) 1 [32] :=
        (rn_one w 32).kept ((Kept.refl (fun _ => False) (w.alloc (.cells #[.int .i32 32] 21))).alloc _).drew (fun _ _ => id)
      have c1 := concat_three (w.alloc (.cells #[.int .i32 32] 21)).heap.size ad ⟨w.heap.size, 0, none⟩ ad2 En c 1 1 (n - X) (c - X) _ _ _ (0, 0) _ (heap_drew' hnew) (HRA.out _ k1) hone (HRC.out _ k1) (by omega)
      rw [← HN.out, ← HJ2.out, hz] at c1
      clear HJL HJ hnew hone hz k0
      go_upto_region 5 with fail
      go_region_held3 (fun (w' : World) => True) (exact trivial) ((go_at_call 77; refine c1.mono ?_; rintro e w2 ⟨hk2, A, cp, rfl, hcp, hR2⟩; have HR2 := Lib.hid hR2; have HK2 := Lib.hid (k1.trans hk2); have HCP := Lib.hid hcp; clear hR2 hk2 hcp))
      all_goals
        go_wp2_with fail
        go_ret
        exact ⟨HK2.out, A, cp, rfl, HCP.out, HR2.out⟩
end Go.Proofs.YtkeojjojilfklaaDoor
