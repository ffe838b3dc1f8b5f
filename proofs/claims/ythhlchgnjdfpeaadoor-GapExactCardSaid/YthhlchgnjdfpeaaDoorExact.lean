/-
  GapExact: its walk.
-/
import Derived.Test.YthhlchgnjdfpeaaDoorExI
import Derived.Lib.MinMax
import Derived.Deep.RegionHeld3
import Derived.Deep.DrawnRows
import Derived.Deep.CutRange
import Derived.Deep.CutBlock
import Derived.BigQuiet
set_option linter.unusedVariables false
attribute [local go_sem ↓] Go.wp_at_zero Go.wp_at_succ
namespace Go.Proofs.YthhlchgnjdfpeaaDoor
open Go Go.RowKit

set_option maxRecDepth 100000 in
set_option maxHeartbeats 40000000 in
theorem exact_any (room : Int) (S : ByteArray) (A : Option Addr) (n c : Nat) (acts : List ActV) (w : World) (hs : S.size ≤ 140737488351232) (hn : n ≤ 140737488351232) (ha : Acts w A n acts) (hB : ∀ a ∈ acts, IB a.ai ∧ IB a.an) (hT : Tabs w) :
    Calls Tryd.prog 3 #[.agg #[.int .i64 room, .string S, .slice A n c]] w fun e w' => e = .returned (.bool true) ∧ Kept (fun _ => False) w w' := by
  have HA := Lib.hid ha
  have HT := Lib.hid hT
  have HBD := Lib.hid hB
  clear ha hT hB
  go_enter Tryd.func3, Tryd.ntmps3
  go_wp2_with fail
  have HA1 : Hid (Acts (w.alloc (.cells #[.int .i64 room, .string S, .slice A n c] 24)) A n acts) := HA.out.kept ((Kept.refl _ w).alloc _)
  have HP : Hid (PB (w.alloc (.cells #[.int .i64 room, .string S, .slice A n c] 24)) w.heap.size room S A n c) := heap_alloc_new w _
  have HK1 : Hid (Kept (fun _ => False) w (w.alloc (.cells #[.int .i64 room, .string S, .slice A n c] 24))) := (Kept.refl _ w).alloc _
  have hlt : w.heap.size < (w.alloc (.cells #[.int .i64 room, .string S, .slice A n c] 24)).heap.size := by simp
  generalize w.alloc (.cells #[.int .i64 room, .string S, .slice A n c] 24) = w1 at HA1 HP HK1 hlt ⊢
  generalize hpb : w.heap.size = pb at HP hlt ⊢
  have HPB := Lib.hid hpb
  clear hpb HA
  refine (heavy_any room S A n c acts w1 hs hn HA1.out).mono ?_
  rintro e w2 ⟨hv, rfl, hk2, hno⟩
  have HN := Lib.hid hno
  have HK2 := Lib.hid (HK1.out.trans hk2)
  have HP2 := Lib.hid (HP.out.kept hk2 id)
  have HA2 := Lib.hid (HA1.out.kept hk2)
  have hlt2 := Nat.lt_of_lt_of_le hlt hk2.size
  have p0 := HP2.out.c0
  have p1 := HP2.out.c1
  clear hno hk2 HA1 HP HK1 hlt
  cases hv
  case true =>
    go_wp2
    go_ret
    exact ⟨rfl, HK2.out⟩
  obtain ⟨hS, hLs⟩ := HN.out rfl
  have HLs := Lib.hid hLs
  clear HN hLs
  go_wp2_with fail
  have HT2 := Lib.hid (HT.out.kept HK2.out id id)
  refine (new_any room S w2 hS HT2.out).mono ?_
  rintro e w3 ⟨hk3, p, rfl, hnew⟩
  unfold NewPost at hnew
  obtain ⟨bad, hbad⟩ : ∃ bad, bad = badOf room S := ⟨_, rfl⟩
  rw [← hbad] at hnew ⊢
  have HBAD := Lib.hid hbad
  have HB : Hid (bad = 0 ∨ bad = 1 ∨ bad = 4) := by rw [hbad]; exact badOf_cases room S
  have HNEW := Lib.hid hnew
  have HK3 := Lib.hid (HK2.out.trans hk3)
  have HP3 := Lib.hid (HP2.out.kept hk3 id)
  have hlt3 := Nat.lt_of_lt_of_le hlt2 hk3.size
  have HHI := Lib.hid hk3
  clear hnew p0 p1 hk3 HT2
  have p0 := HP3.out.c0
  have p1 := HP3.out.c1
  clear hbad
  have HT3 := Lib.hid (HT.out.kept HK3.out id id)
  obtain ⟨B, hB⟩ : ∃ B, B = decide (0 ≤ room ∧ room ≤ 1100 ∧ rowB S.data.toList = true) := ⟨_, rfl⟩
  have HBB := Lib.hid hB
  clear hB
  go_upto_region 5 with fail
  go_cut [43] from 36 to 43 (fun s wx => s = .bool B ∧ Kept (fun _ => False) w3 wx)
  case first =>
    as_aux_lemma =>
      by_cases hr : 0 ≤ room ∧ room ≤ 1100
      · go_wp2_with (first | (go_at_call 7; refine (znum_yes _ _ hr _).mono ?_; rintro e w' ⟨rfl, rfl⟩) | (go_at_call 8; refine (row_any S _ (by omega) HT3.out).mono ?_; rintro e w4 ⟨rfl, hk4⟩))
        go_meet
        case rel => exact ⟨by rw [HBB.out]; simp [hr], hk4⟩
      · go_wp2_with (first | (go_at_call 7; refine (znum_no _ _ hr _).mono ?_; rintro e w' ⟨rfl, rfl⟩))
        go_meet
        case rel => exact ⟨by rw [HBB.out]; simp; omega, Kept.refl _ _⟩
  case rest =>
    obtain ⟨rfl, hk4⟩ := hcut
    have HK4 := Lib.hid hk4
    have HP4 := Lib.hid (HP3.out.kept hk4 id)
    clear hk4 p0 p1
    have p0 := HP4.out.c0
    have p1 := HP4.out.c1
    go_upto_if 43 with fail
    go_cut [5] from 44 to 49 (fun s wx => s = .int .i64 bad ∧ Kept (fun _ => False) w3 wx)
    case first =>
      cases B
      case true =>
        as_aux_lemma =>
          have hc : 0 ≤ room ∧ room ≤ 1100 ∧ rowB S.data.toList = true := of_decide_eq_true HBB.out.symm
          obtain ⟨k, rfl⟩ : ∃ k : Nat, room = (k : Int) := ⟨room.toNat, by omega⟩
          have hbe : Hid (bad = if (Utf.runes S.data.toList).length ≤ k then 0 else 4) := by rw [HBAD.out]; show badOf _ _ = _; unfold badOf; rw [if_pos hc]; simp
          have HL : Hid ((Utf.runes S.data.toList).length ≤ 5000) := by have h1 := Utf.runes_length S.data.toList; have h2 := Lib.size_eq S; show _ ≤ _; omega
          clear hc
          have cR := fun w7 => rlen_any S w7 (Nat.le_trans HL.out (by omega))
          generalize (Utf.runes S.data.toList).length = L at cR hbe HL
          have hLL : L ≤ 5000 := HL.out
          have HPD : Hid (PB wc.drew pb k S A n c) := HP4.out
          have q0 := HPD.out.c0
          have q1 := HPD.out.c1
          have HKD := Lib.hid HK4.out.drew
          by_cases hfit : L ≤ k
          · have b7 : decide (k < L) = false := by simp; omega
            have hbe' : Hid (bad = 0) := by show bad = 0; rw [hbe.out, if_pos hfit]
            go_wp2
            go_region_held3 (fun w' => w'.cell? ⟨pb, 0, none⟩ = some (.int .i64 k) ∧ w'.cell? ⟨pb, 1, none⟩ = some (.string S)) (first | exact ⟨q0, q1⟩ | exact ⟨(PB.kept HPD.out hk7 id).c0, (PB.kept HPD.out hk7 id).c1⟩ | go_keep)
              (first | (go_at_call 9; refine (cR _).mono ?_; rintro e w7 ⟨rfl, hk7⟩))
            go_wp2
            go_meet
            case rel => exact ⟨by rw [hbe'.out], HKD.out.trans hk7⟩
          · have b7 : decide (k < L) = true := by simp; omega
            have hbe' : Hid (bad = 4) := by show bad = 4; rw [hbe.out, if_neg hfit]
            go_wp2
            go_region_held3 (fun w' => w'.cell? ⟨pb, 0, none⟩ = some (.int .i64 k) ∧ w'.cell? ⟨pb, 1, none⟩ = some (.string S)) (first | exact ⟨q0, q1⟩ | exact ⟨(PB.kept HPD.out hk7 id).c0, (PB.kept HPD.out hk7 id).c1⟩ | go_keep)
              (first | (go_at_call 9; refine (cR _).mono ?_; rintro e w7 ⟨rfl, hk7⟩))
            go_wp2
            go_meet
            case rel => exact ⟨by rw [hbe'.out], HKD.out.trans hk7⟩
      case false =>
        as_aux_lemma =>
          have hc : ¬ (0 ≤ room ∧ room ≤ 1100 ∧ rowB S.data.toList = true) := of_decide_eq_false HBB.out.symm
          have hbe : bad = 1 := by rw [HBAD.out]; show badOf _ _ = _; unfold badOf; rw [if_neg hc]
          clear hc
          go_wp2
          go_meet
          case rel => exact ⟨by rw [hbe], HK4.out⟩
    case rest =>
      obtain ⟨rfl, hk5⟩ := hcut
      clear p0 p1 HP4 HK4
      have HK5 := Lib.hid hk5
      have HP5 := Lib.hid (HP3.out.kept hk5 id)
      clear hk5
      have p0 := HP5.out.c0
      have p1 := HP5.out.c1
      go_upto_region 9 with fail
      go_cut [60] from 50 to 60 (fun s wx => s = .bool false ∧ wx = wc)
      case first =>
        rcases HNEW.out with ⟨hb, rfl⟩ | ⟨rfl, rb, cb, n9, c9, zs, h1, h2, rfl, hg⟩
        · have hbb : (bad != 0) = true := by simpa using hb
          clear hb
          go_wp2_with (go_at_call 10; refine (num_any _ _).mono ?_; rintro e w' ⟨rfl, rfl⟩)
          go_meet
          case rel => exact ⟨rfl, rfl⟩
        · clear hg
          go_wp2_with (go_at_call 10; refine (num_any _ _).mono ?_; rintro e w' ⟨rfl, rfl⟩)
          go_meet
          case rel => exact ⟨rfl, rfl⟩
      case rest =>
        obtain ⟨rfl, rfl⟩ := hcut
        go_wp2_with fail
        have HT5 := Lib.hid (HT3.out.kept HK5.out id id)
        have hlenS : (Utf.runes S.data.toList).length ≤ 5000 := by have h1 := Utf.runes_length S.data.toList; have h2 := Lib.size_eq S; omega
        obtain ⟨cap, w8, hcv, hk8, hown⟩ := conv_own S wc.drew (by omega)
        have hsz : wc.drew.heap.size = wc.heap.size := rfl
        rw [hsz] at hcv hown
        have HOWN := Lib.hid hown
        have HPD : Hid (PB wc.drew pb room S A n c) := HP5.out
        have HP8 := Lib.hid (PB.kept HPD.out hk8 id)
        have HK8 := Lib.hid (HK5.out.drew.trans hk8)
        have q0 := HPD.out.c0
        have q1 := HPD.out.c1
        have r0 := HP8.out.c0
        have r1 := HP8.out.c1
        have HLS := Lib.hid hlenS
        clear hown hk8 hsz hlenS
        have HT8 := Lib.hid (HT3.out.kept HK8.out id id)
        have hszw : w3.heap.size ≤ wc.heap.size := HK5.out.size
        generalize hL : (Utf.runes S.data.toList).length = L at hcv HOWN HLS ⊢
        have HL := Lib.hid hL
        clear hL
        generalize wc.heap.size = tb at hcv HOWN hszw ⊢
        go_cut [6, 7] from 61 to 65 (fun s s' wx => s = .slice (some ⟨tb, 0, none⟩) L cap ∧ s' = .int .i64 room ∧ wx = w8)
        case first =>
          go_region
          all_goals (try go_wp2)
          all_goals go_meet
          all_goals exact ⟨rfl, rfl, rfl⟩
        case rest =>
          obtain ⟨rfl, rfl, rfl⟩ := hcut
          clear q0 q1 r0 r1 p0 p1 HPD HP8 hcv
          go_upto_if 67 with fail
          go_cut [3, 4, 6, 7] from 66 to 78 (fun s3 s4 s6 s7 wx => ∃ rb room' T, s3 = .pointer (some ⟨rb, 0, none⟩) ∧ s7 = .int .i64 (room' : Nat) ∧ ExSt w2 pb rb room' s6 0 0 T wx)
          case first =>
            as_aux_lemma =>
              have HNEW' := HNEW.out
              rcases HB.out with hb | hb
              · have hbb : (bad != 0) = false := by simpa using hb
                rcases HNEW' with ⟨h1, _⟩ | ⟨_, rb, cb, n9, c9, zs, h1, h2, rfl, hg⟩
                · exact absurd hb h1
                have HBZ := Lib.hid (badOf_zero (HBAD.out.symm.trans hb))
                have HG := Lib.hid hg
                clear hb hg
                go_wp2
                go_meet
                case rel =>
                  obtain ⟨z0, z1, z2, z3⟩ := HBZ.out
                  have hr : ((room.toNat : Nat) : Int) = room := by omega
                  have hG8 := HG.out.kept HK8.out id id
                  have hrb := heap_lt HG.out.r
                  have hcb := heap_lt HG.out.b
                  have hh2 := HHI.out.size
                  exact ⟨rb, room.toNat, Utf.runes S.data.toList, rfl, by rw [hr], cb, n9, c9, 0, zs, hG8, ⟨by rw [HL.out]; exact HOWN.out _ (by omega), by simp [Value.ownBlock]; omega, by simp [Value.ownBlock]; omega⟩, z2, by omega, h1, h2, HHI.out.trans HK8.out⟩
              · have hbb : (bad != 0) = true := by simp; omega
                clear hb HNEW'
                go_wp2_with fail
                refine (new_yes ⟨#[]⟩ 30 _ (by decide) HT8.out (by kernel_rfl) (fun r hr => by cases hr) (by omega) (by decide)).mono ?_
                rintro e w9 ⟨hk9, rb, cb, n9, c9, zs, h1, h2, rfl, hg⟩
                have HG := Lib.hid hg
                have HK9 := Lib.hid (HHI.out.trans (HK8.out.trans hk9))
                have hh := (HHI.out.trans HK8.out).size
                clear hg hk9
                go_wp2_with (go_at_call 10; refine (num_any _ _).mono ?_; rintro e w' ⟨rfl, rfl⟩)
                go_meet
                case rel =>
                  exact ⟨rb, 30, [], rfl, rfl, cb, n9, c9, 0, zs, HG.out, ⟨World.ownsRow_nil _ _ _ _, by simp [Value.ownBlock], by simp [Value.ownBlock]⟩, (by simp), by omega, by omega, by omega, HK9.out⟩
          case rest =>
            obtain ⟨rb, room', T, rfl, rfl, hst⟩ := hcut
            have HST := Lib.hid hst
            clear hst HNEW HB HBB HBAD HT5 HP5 HK5 HOWN HLS HL HK8 HT8 hszw HP3 HT3 HHI HK3
            go_wp2_with fail
            go_loopw [6, 8, 9, 10] (fun s6 s8 s9 s10 wr => ∃ (k at_ : Nat) (M : Int) (T : List Int), k ≤ n ∧ k ≤ 25 ∧ s10 = .int .i64 k ∧ s8 = .int .i64 at_ ∧ s9 = .int .i64 M ∧ M ≤ 100000 * k ∧ ExSt w2 pb rb room' s6 at_ M T wr) (fun _ _ _ i _ => n - (intOf i).toNat)
            case atStart => exact ⟨0, 0, 0, T, Nat.zero_le _, by omega, rfl, rfl, rfl, by omega, HST.out⟩
            case round =>
              clear HST
              obtain ⟨k, at_, M, T, hk, hk25, rfl, rfl, rfl, hM, hst⟩ := hrel
              obtain ⟨cb, n9, c9, high, zs, hG, hOwn, hMay, hroom, hrb, hcb, hK⟩ := hst
              have HG := Lib.hid hG
              have HOwn := Lib.hid hOwn
              have HMay := Lib.hid hMay
              have HK := Lib.hid hK
              have HPr := Lib.hid (HP2.out.kept hK id)
              have HAr := Lib.hid (HA2.out.kept hK)
              have p2 := HPr.out.c2
              have hlen := hG.len
              have hnr := hG.nr
              have hm0 := hG.m0
              have hTl : T.length ≤ 1100 := by omega
              clear hG hMay hK hlen hnr
              obtain ⟨At, ct, rfl, hct, hform⟩ := own_form hOwn
              have HForm := Lib.hid hform
              clear hOwn hform
              have hwk : w.heap.size ≤ w2.heap.size := HK2.out.size
              by_cases hkn : k < n
              case neg =>
                as_aux_lemma =>
                  obtain rfl : k = n := by omega
                  go_wp2_with fail
                  have HT9 := Lib.hid (HT.out.kept (HK2.out.trans HK.out) id id)
                  have HOwn' := HOwn.out
                  have hcv : ∀ q, (convert 34 9 (.slice At T.length ct)).run Tryd.prog (wr.drewN q) = .ok (.string (runesBytes T)) (wr.drewN q) := fun q => own_text (w := wr.drewN q) HOwn' rfl hct HForm.out
                  clear HOwn' p2
                  have cT := fun q => text_any (HG.out.drewN q)
                  have cW := fun q => wakes_any (wr.drewN q) (HT9.out.kept ((Kept.refl (fun _ => False) wr).drewN q) id id)
                  have hcv0 : (convert 34 9 (.slice At T.length ct)).run Tryd.prog wr.drew = .ok (.string (runesBytes T)) wr.drew := hcv 1
                  generalize hRB : runesBytes T = RB at hcv hcv0 cT
                  have HRB := Lib.hid hRB
                  clear hRB
                  go_region_held3 (fun (W : World) => (convert 34 9 (.slice At T.length ct)).run Tryd.prog W = .ok (.string RB) W) (first | with_reducible exact hcv8 | with_reducible exact hcv0 | with_reducible exact hcv _) (first | (go_at_call 19; refine (cT _).mono ?_; rintro e w' ⟨rfl, q, rfl⟩) | (go_at_call 23; refine (cW _).mono ?_; rintro e w8 ⟨rfl, hk8⟩; have hk9 : Kept (fun _ => False) wr w8 := ((Kept.refl (fun _ => False) wr).drewN _).trans hk8; have hcv8 := own_text' (HOwn.out.kept hk9 (fun _ _ => id)); rw [HRB.out] at hcv8))
                  go_wp2
                  go_ret
                  exact ⟨rfl, (HK2.out.trans HK.out).trans hk9⟩
              by_cases hk5 : k < 25
              case neg =>
                as_aux_lemma =>
                  obtain rfl : k = 25 := by omega
                  go_wp2_with fail
                  have HT9 := Lib.hid (HT.out.kept (HK2.out.trans HK.out) id id)
                  have HOwn' := HOwn.out
                  have hcv : ∀ q, (convert 34 9 (.slice At T.length ct)).run Tryd.prog (wr.drewN q) = .ok (.string (runesBytes T)) (wr.drewN q) := fun q => own_text (w := wr.drewN q) HOwn' rfl hct HForm.out
                  clear HOwn' p2
                  have cT := fun q => text_any (HG.out.drewN q)
                  have cW := fun q => wakes_any (wr.drewN q) (HT9.out.kept ((Kept.refl (fun _ => False) wr).drewN q) id id)
                  have hcv0 : (convert 34 9 (.slice At T.length ct)).run Tryd.prog wr.drew = .ok (.string (runesBytes T)) wr.drew := hcv 1
                  generalize hRB : runesBytes T = RB at hcv hcv0 cT
                  have HRB := Lib.hid hRB
                  clear hRB
                  go_region_held3 (fun (W : World) => (convert 34 9 (.slice At T.length ct)).run Tryd.prog W = .ok (.string RB) W) (first | with_reducible exact hcv8 | with_reducible exact hcv0 | with_reducible exact hcv _) (first | (go_at_call 19; refine (cT _).mono ?_; rintro e w' ⟨rfl, q, rfl⟩) | (go_at_call 23; refine (cW _).mono ?_; rintro e w8 ⟨rfl, hk8⟩; have hk9 : Kept (fun _ => False) wr w8 := ((Kept.refl (fun _ => False) wr).drewN _).trans hk8; have hcv8 := own_text' (HOwn.out.kept hk9 (fun _ _ => id)); rw [HRB.out] at hcv8))
                  go_wp2
                  go_ret
                  exact ⟨rfl, (HK2.out.trans HK.out).trans hk9⟩
              have b25 : decide ((k : Int) < 25) = true := by simp; omega
              obtain ⟨ad, a, rfl, hak, a0, a1, a2, a3, hN, _⟩ := HAr.out.at_ hkn
              have hln := HLs.out a (List.mem_of_getElem? hak)
              obtain ⟨hbi, hbn⟩ := HBD.out a (List.mem_of_getElem? hak)
              obtain ⟨ad2, b2, e2, hak2, _, _, _, _, hN2, _⟩ := HA2.out.at_ hkn
              obtain rfl : b2 = a := Option.some.inj (hak2.symm.trans hak)
              have HN2 := Lib.hid hN2
              have HN := Lib.hid hN
              have HBI := Lib.hid hbi
              have HBN := Lib.hid hbn
              clear hN hN2 hak2 e2 hak hbi hbn
              obtain ⟨ado, ai, an, la, ln, lc, xs⟩ := b2
              simp only at a0 a1 a2 a3 HN HN2 hln HBI HBN
              go_upto_if 100 with fail
              have hkA : Kept (fun _ => False) wr (wr.alloc (.cells #[.int .i64 ado, .int .i64 ai, .int .i64 an, .slice la ln lc] 37)) := (Kept.refl _ wr).alloc _
              have HA5 : Hid (AB (wr.alloc (.cells #[.int .i64 ado, .int .i64 ai, .int .i64 an, .slice la ln lc] 37)) wr.heap.size ado ai an la ln lc) := heap_alloc_new wr _
              have hab : w2.heap.size ≤ wr.heap.size := HK.out.size
              have habr : wr.heap.size ≠ rb := by have := heap_lt HG.out.r; omega
              have habc : wr.heap.size ≠ cb := by have := heap_lt HG.out.b; omega
              generalize wr.alloc (.cells #[.int .i64 ado, .int .i64 ai, .int .i64 an, .slice la ln lc] 37) = w5 at hkA HA5 ⊢
              generalize wr.heap.size = ab at HA5 hab habr habc ⊢
              have HG5 := Lib.hid (HG.out.kept hkA id id)
              have HOwn5 := Lib.hid (HOwn.out.kept hkA (fun _ _ => id))
              have HForm5 : Hid ((At = none ∧ T = [] ∧ ct = 0) ∨ ∃ g, At = some ⟨g, 0, none⟩ ∧ w2.heap.size ≤ g ∧ g < w5.heap.size ∧ g ≠ rb ∧ g ≠ cb) := by
                rcases HForm.out with h | ⟨g, h1, h2, h3, h4⟩
                · exact Or.inl h
                · exact Or.inr ⟨g, h1, h2, Nat.lt_of_lt_of_le h3 hkA.size, h4⟩
              have HK5 := Lib.hid (HK.out.trans hkA)
              have HP5 := Lib.hid (HPr.out.kept hkA id)
              have HN5 := Lib.hid (HN.out.kept hkA (fun _ _ => id))
              clear hkA a0 a1 a2 a3 p2 HG HOwn HK HPr HAr HN
              have a0 := HA5.out.c0
              have a1 := HA5.out.c1
              have a2 := HA5.out.c2
              have a3 := HA5.out.c3
              go_cut [12] from 98 to 106 (fun s wx => (∃ K : Int, s = .int .i64 K ∧ IB K) ∧ wx = w5)
              case first =>
                as_aux_lemma =>
                  cases hd : (ado.tmod 2 == 0)
                  case true =>
                    go_wp2_with (go_at_call 11; refine (within_any ai (T.length + 1) (by omega) (by omega) _).mono ?_; rintro e w' ⟨kk, hkk, rfl, rfl⟩)
                    go_meet
                    case rel => exact ⟨⟨_, rfl, by unfold IB; omega⟩, rfl⟩
                  case false =>
                    go_wp2
                    go_meet
                    case rel => exact ⟨⟨_, rfl, HBI.out⟩, rfl⟩
              case rest =>
                obtain ⟨⟨K, rfl, hK⟩, hw⟩ := hcut
                have hw' := hw.symm
                subst hw'
                have HKB := Lib.hid hK
                clear hK
                go_upto_block 2 with (go_at_call 11; refine (within_any ado 12 (by omega) (by omega) _).mono ?_; rintro e w' ⟨dd, hdd, rfl, hw⟩; have hw2 := hw.symm; subst hw2)
                obtain ⟨b5, hb5⟩ : ∃ b, ((dd : Int) == 5) = b := ⟨_, rfl⟩
                obtain ⟨b6, hb6⟩ : ∃ b, ((dd : Int) == 6) = b := ⟨_, rfl⟩
                obtain ⟨b7, hb7⟩ : ∃ b, ((dd : Int) == 7) = b := ⟨_, rfl⟩
                obtain ⟨b8, hb8⟩ : ∃ b, ((dd : Int) == 8) = b := ⟨_, rfl⟩
                obtain ⟨b9, hb9⟩ : ∃ b, ((dd : Int) == 9) = b := ⟨_, rfl⟩
                obtain ⟨b10, hb10⟩ : ∃ b, ((dd : Int) == 10) = b := ⟨_, rfl⟩
                obtain ⟨b11, hb11⟩ : ∃ b, ((dd : Int) == 11) = b := ⟨_, rfl⟩
                clear hdd
                go_cut [6, 8, 9] from 110 to 323 (fun s6 s8 s9 wx => ∃ (at1 : Nat) (M1 : Int) (T1 : List Int), s8 = .int .i64 at1 ∧ s9 = .int .i64 M1 ∧ M1 ≤ M + 100000 ∧ ExSt w2 pb rb room' s6 at1 M1 T1 wx)
                case first =>
                  go_upto_if 204 with fail
                  go_cut [204] from 205 to 207 (fun s wx => s = .bool (b5 || b6 || b7) ∧ wx = w5)
                  case first =>
                    cases b5 <;> cases b6 <;> cases b7 <;> (go_wp2; go_meet; exact ⟨rfl, rfl⟩)
                  case rest =>
                    obtain ⟨rfl, hw⟩ := hcut
                    have hw' := hw.symm
                    subst hw'
                    clear hb5 hb6 hb7
                    generalize (b5 || b6 || b7) = c1
                    cases c1
                    case true =>
                      as_aux_lemma =>
                        clear hb8 hb9 hb10 hb11
                        by_cases hin : 0 ≤ K ∧ 0 ≤ an ∧ K + an ≤ T.length
                        · obtain ⟨i, rfl⟩ : ∃ i : Nat, K = (i : Int) := ⟨K.toNat, by omega⟩
                          obtain ⟨m, rfl⟩ : ∃ m : Nat, an = (m : Int) := ⟨an.toNat, by omega⟩
                          have him : i + m ≤ T.length := by omega
                          have hat : at_ ≤ 10000 := by have h1 := HG5.out.lh; have h2 := HG5.out.hn; have h3 := HG5.out.nr; have h4 := HG5.out.rr; omega
                          have cD := delete_yes HG5.out i m him (by omega)
                          obtain ⟨X1, hs1, hX1, hc1⟩ := cut_head HOwn5.out rfl hct HForm5.out (show i ≤ T.length by omega)
                          obtain ⟨X2, hs2, hX2, hc2⟩ := cut_tail HOwn5.out rfl hct HForm5.out him
                          have hs2' : ∀ u, (Instr.slice 34 (.slice At T.length ct) (some (.int .i64 ((i : Int) + (m : Int)))) none none).run Tryd.prog u = .ok (.slice X2 (T.length - (i + m)) (ct - (i + m))) u := by
                            intro u
                            have h := hs2 u
                            rwa [show (((i + m : Nat) : Nat) : Int) = (i : Int) + (m : Int) by omega] at h
                          have hmx : max ((at_ : Int) - (i : Int)) ((i : Int) - (at_ : Int)) = (((at_ : Int) - (i : Int)).natAbs : Int) := by omega
                          have HC1 := Lib.hid hc1
                          have HC2 := Lib.hid hc2
                          have HX1 := Lib.hid hX1
                          have HX2 := Lib.hid hX2
                          have HMX := Lib.hid hmx
                          have HIM := Lib.hid him
                          clear hs2 hc1 hc2 hX1 hX2 hmx hin
                          have cN1 := fun W => znum_yes (i : Int) (T.length : Int) (by omega) W
                          have cN2 := fun W => znum_yes (m : Int) ((T.length : Int) - (i : Int)) (by omega) W
                          have i0 : (0 : Int) ≤ (i : Int) := by omega
                          have i1 : (i : Int) ≤ (T.length : Int) := by omega
                          have i2 : (i : Int) + (m : Int) ≤ (T.length : Int) := by omega
                          go_wp2_with (first | (go_at_call 7; refine (cN1 _).mono ?_; clear cN1; rintro e w' ⟨rfl, hw⟩; have hw2 := hw.symm; clear hw; subst hw2) | (go_at_call 7; refine (cN2 _).mono ?_; clear cN2; rintro e w' ⟨rfl, hw⟩; have hw2 := hw.symm; clear hw; subst hw2) | (go_at_call 12; refine cD.mono ?_; clear cD a0 a1 a2 a3; rintro e w6 ⟨rfl, hk6, high6, zs6, hg6⟩; have HG6 := Lib.hid hg6; have HA6 : Hid (AB w6 ab ado ai (m : Int) la ln lc) := HA5.out.kept hk6 (by rintro (e | e) <;> omega); have HK6 := Lib.hid hk6; have a2 := HA6.out.c2; clear hg6 hk6) | (go_at_call 10; refine (num_any _ _).mono ?_; rintro e w' ⟨rfl, hw⟩; have hw2 := hw.symm; clear hw; subst hw2))
                          have wim : IntKind.i64.wrap ((i : Int) + (m : Int)) = (i : Int) + (m : Int) := IntWalk.i64_in _ (by omega)
                          have HSZ6 : Hid (w2.heap.size ≤ w6.drew.heap.size) := Nat.le_trans HK5.out.size HK6.out.size
                          have HOwn6 : Hid (Own w6.drew w2.heap.size rb cb (.slice At T.length ct) T) := own_far HOwn5.out HK6.out.drew
                          have HM0 := Lib.hid (mk_nil w6.drew w2.heap.size HSZ6.out)
                          have HK26 : Hid (Kept (fun _ => False) w2 w6.drew) := (HK5.out.fresh HK6.out (fun p hp e => by rcases e with e | e <;> omega)).drew
                          have HAd : Hid (AB w6.drew ab ado ai (m : Int) la ln lc) := HA6.out
                          have HGd : Hid (GS w6.drew rb room' cb n9 c9 i high6 (M + (((at_ : Int) - (i : Int)).natAbs : Nat)) zs6 (T.take i ++ T.drop (i + m))) := HG6.out.drewN 1
                          have a2d : w6.drew.cell? ⟨ab, 2, none⟩ = some (.int .i64 (m : Int)) := a2
                          have a2z := (HAd.out.kept HM0.out.2.2 id).c2
                          go_region_held3 (fun (W : World) => W.cell? ⟨ab, 2, none⟩ = some (.int .i64 (m : Int))) (first | with_reducible exact a2d | with_reducible exact a2 | with_reducible exact a2z | with_reducible exact a2m | with_reducible exact a2n | go_keep)
                            (first
                              | (refine step_append_opt rfl (.tmp 243) (.tmp 246) rfl w2.heap.size _ _ _ rfl HM0.out.1 X1 i ct ((T.take i).map (Value.int .i32)) rfl HX1.out (by rw [List.length_map, List.length_take]; omega) (HC1.out _ (HOwn6.out.kept HM0.out.2.2 (fun _ _ => id))) (one_runes _) (by simp; omega) (Nat.le_trans HSZ6.out HM0.out.2.2.size) ?_; intro v1 w7 hown7 hgrow7 hat7; have HM1 := Lib.hid (HM0.out.app (t2 := T.take i) hown7 hgrow7 hat7 (by rw [List.nil_append, List.length_take]; simp; omega) (by simp)); have a2m := (HAd.out.kept HM1.out.2.2 id).c2; clear hown7 hgrow7 hat7)
                              | (refine step_append_opt rfl (.tmp 247) (.tmp 253) rfl w2.heap.size _ _ _ rfl HM1.out.1 X2 (T.length - (i + m)) (ct - (i + m)) ((T.drop (i + m)).map (Value.int .i32)) rfl HX2.out (by rw [List.length_map, List.length_drop]) (HC2.out _ (HOwn6.out.kept HM1.out.2.2 (fun _ _ => id))) (one_runes _) (by simp; omega) (Nat.le_trans HSZ6.out HM1.out.2.2.size) ?_; intro v2 w8 hown8 hgrow8 hat8; have HM2 := Lib.hid (HM1.out.app (t2 := T.drop (i + m)) hown8 hgrow8 hat8 (by simp) (by simp)); have a2n := (HAd.out.kept HM2.out.2.2 id).c2; clear hown8 hgrow8 hat8))
                          go_wp2
                          go_meet
                          case rel =>
                            have h8 := HM2.out
                            rw [List.nil_append] at h8
                            exact ⟨i, M + (((at_ : Int) - (i : Int)).natAbs : Nat), T.take i ++ T.drop (i + m), rfl, by rw [HMX.out], by omega, cb, n9, c9, high6, zs6, HGd.out.kept h8.2.2 id id, h8.own (heap_lt HGd.out.r) (heap_lt HGd.out.b), fun r hr => HMay.out r (by
                              rcases List.mem_append.1 hr with h | h
                              · exact List.mem_of_mem_take h
                              · exact List.mem_of_mem_drop h), hroom, hrb, hcb, HK26.out.trans h8.2.2⟩
                        · have cD := delete_no HG5.out K an hin HKB.out HBN.out
                          by_cases hk1 : 0 ≤ K ∧ K ≤ (T.length : Int)
                          · have hz2 : ¬ (0 ≤ an ∧ an ≤ (T.length : Int) - K) := by omega
                            have cN1 := fun W => znum_yes K _ hk1 W
                            have cN2 := fun W => znum_no an _ hz2 W
                            obtain ⟨hk1a, hk1b⟩ := hk1
                            clear hz2 hin
                            go_wp2_with (first | (go_at_call 12; refine cD.mono ?_; clear cD; rintro e w' ⟨rfl, q, rfl⟩) | (go_at_call 7; refine (cN1 _).mono ?_; clear cN1; rintro e w' ⟨rfl, hw⟩; have hw2 := hw.symm; clear hw; subst hw2) | (go_at_call 7; refine (cN2 _).mono ?_; clear cN2; rintro e w' ⟨rfl, hw⟩; have hw2 := hw.symm; clear hw; subst hw2) | (go_at_call 10; refine (num_any _ _).mono ?_; rintro e w' ⟨rfl, hw⟩; have hw2 := hw.symm; clear hw; subst hw2))
                            go_meet
                            case rel => exact ⟨at_, M, T, rfl, rfl, by omega, cb, n9, c9, high, zs, HG5.out.drewN _, HOwn5.out, HMay.out, hroom, hrb, hcb, HK5.out.drewN _⟩
                          · have cN1 := fun W => znum_no K _ hk1 W
                            clear hk1 hin
                            go_wp2_with (first | (go_at_call 12; refine cD.mono ?_; clear cD; rintro e w' ⟨rfl, q, rfl⟩) | (go_at_call 7; refine (cN1 _).mono ?_; clear cN1; rintro e w' ⟨rfl, hw⟩; have hw2 := hw.symm; clear hw; subst hw2) | (go_at_call 10; refine (num_any _ _).mono ?_; rintro e w' ⟨rfl, hw⟩; have hw2 := hw.symm; clear hw; subst hw2))
                            go_meet
                            case rel => exact ⟨at_, M, T, rfl, rfl, by omega, cb, n9, c9, high, zs, HG5.out.drewN _, HOwn5.out, HMay.out, hroom, hrb, hcb, HK5.out.drewN _⟩
                    case false =>
                      go_upto_if 255 with fail
                      go_cut [255] from 256 to 257 (fun s wx => s = .bool (b8 || b9) ∧ wx = w5)
                      case first =>
                        cases b8 <;> cases b9 <;> (go_wp2; go_meet; exact ⟨rfl, rfl⟩)
                      case rest =>
                        obtain ⟨rfl, hw⟩ := hcut
                        have hw' := hw.symm
                        subst hw'
                        clear hb8 hb9
                        generalize (b8 || b9) = c2
                        cases c2
                        case true =>
                          as_aux_lemma =>
                            by_cases hin : 0 ≤ K ∧ 0 ≤ an ∧ K + an ≤ T.length
                            · obtain ⟨i, rfl⟩ : ∃ i : Nat, K = (i : Int) := ⟨K.toNat, by omega⟩
                              obtain ⟨m, rfl⟩ : ∃ m : Nat, an = (m : Int) := ⟨an.toNat, by omega⟩
                              have him : i + m ≤ T.length := by omega
                              have cS := slice_yes HG5.out i m him
                              obtain ⟨X, C, hsl, hcv0⟩ := cut_mid HOwn5.out rfl hct HForm5.out him
                              have hcv : ∀ q, (convert 34 9 (.slice X m C)).run Tryd.prog (w5.drewN q) = .ok (.string (runesBytes ((T.drop i).take m))) (w5.drewN q) := fun q => hcv0 (w5.drewN q) HOwn5.out
                              generalize runesBytes ((T.drop i).take m) = RB at cS hcv
                              clear hin hcv0
                              go_wp2_with (first | (go_at_call 13; refine cS.mono ?_; rintro e w' ⟨rfl, q, rfl⟩) | (go_at_call 7; refine (znum_yes _ _ ⟨by omega, by omega⟩ _).mono ?_; rintro e w' ⟨rfl, rfl⟩) | (go_at_call 10; refine (num_any _ _).mono ?_; rintro e w' ⟨rfl, rfl⟩))
                              go_meet
                              case rel => exact ⟨at_, M, T, rfl, rfl, by omega, cb, n9, c9, high, zs, HG5.out.drewN _, HOwn5.out, HMay.out, hroom, hrb, hcb, HK5.out.drewN _⟩
                            · have cS := slice_no HG5.out K an hin HKB.out HBN.out
                              have HIN := Lib.hid hin
                              clear hin
                              by_cases hk1 : 0 ≤ K ∧ K ≤ (T.length : Int)
                              · have hz2 : ¬ (0 ≤ an ∧ an ≤ (T.length : Int) - K) := by have hin := HIN.out; omega
                                have cN1 := fun W => znum_yes K _ hk1 W
                                have cN2 := fun W => znum_no an _ hz2 W
                                obtain ⟨hk1a, hk1b⟩ := hk1
                                clear hz2
                                go_wp2_with (first | (go_at_call 13; refine cS.mono ?_; rintro e w' ⟨rfl, q, rfl⟩) | (go_at_call 7; refine (cN1 _).mono ?_; clear cN1; rintro e w' ⟨rfl, hw⟩; have hw2 := hw.symm; clear hw; subst hw2) | (go_at_call 7; refine (cN2 _).mono ?_; clear cN2; rintro e w' ⟨rfl, hw⟩; have hw2 := hw.symm; clear hw; subst hw2) | (go_at_call 10; refine (num_any _ _).mono ?_; rintro e w' ⟨rfl, hw⟩; have hw2 := hw.symm; clear hw; subst hw2))
                                go_meet
                                case rel => exact ⟨at_, M, T, rfl, rfl, by omega, cb, n9, c9, high, zs, HG5.out.drewN _, HOwn5.out, HMay.out, hroom, hrb, hcb, HK5.out.drewN _⟩
                              · have cN1 := fun W => znum_no K _ hk1 W
                                clear hk1
                                go_wp2_with (first | (go_at_call 13; refine cS.mono ?_; rintro e w' ⟨rfl, q, rfl⟩) | (go_at_call 7; refine (cN1 _).mono ?_; clear cN1; rintro e w' ⟨rfl, hw⟩; have hw2 := hw.symm; clear hw; subst hw2) | (go_at_call 10; refine (num_any _ _).mono ?_; rintro e w' ⟨rfl, hw⟩; have hw2 := hw.symm; clear hw; subst hw2))
                                go_meet
                                case rel => exact ⟨at_, M, T, rfl, rfl, by omega, cb, n9, c9, high, zs, HG5.out.drewN _, HOwn5.out, HMay.out, hroom, hrb, hcb, HK5.out.drewN _⟩
                        case false =>
                          go_upto_if 296 with fail
                          go_cut [296] from 297 to 297 (fun s wx => s = .bool (b10 || b11) ∧ wx = w5)
                          case first =>
                            cases b10 <;> cases b11 <;> (go_wp2; go_meet; exact ⟨rfl, rfl⟩)
                          case rest =>
                            obtain ⟨rfl, hw⟩ := hcut
                            have hw' := hw.symm
                            subst hw'
                            clear hb10 hb11
                            generalize (b10 || b11) = c3
                            cases c3
                            case true =>
                              as_aux_lemma =>
                                by_cases hin : 0 ≤ K ∧ K < T.length
                                · obtain ⟨i, rfl⟩ : ∃ i : Nat, K = (i : Int) := ⟨K.toNat, by omega⟩
                                  obtain ⟨x, hx⟩ : ∃ x, T[i]? = some x := ⟨_, List.getElem?_eq_getElem (by omega)⟩
                                  have hmx := HMay.out x (List.mem_of_getElem? hx)
                                  have cR := rune_yes HG5.out i x hx hmx
                                  have x1 : IntKind.i64.wrap x = x := IntWalk.i64_in _ (by unfold May at hmx; omega)
                                  have hFo := HForm.out
                                  rcases hFo with ⟨_, h0, _⟩ | ⟨g, rfl, _⟩
                                  · exfalso; rw [h0] at hin; simp at hin; omega
                                  have hc := HOwn5.out.cell hx
                                  have hil : (i : Int) < (T.length : Int) := hin.2
                                  have hi0 : (0 : Int) ≤ (i : Int) := by omega
                                  clear hmx hx hin
                                  go_wp2_with (first | (go_at_call 14; refine cR.mono ?_; rintro e w' ⟨rfl, q, rfl⟩) | (go_at_call 7; refine (znum_yes _ _ ⟨by omega, by omega⟩ _).mono ?_; rintro e w' ⟨rfl, rfl⟩) | (go_at_call 10; refine (num_any _ _).mono ?_; rintro e w' ⟨rfl, rfl⟩))
                                  go_meet
                                  case rel => exact ⟨at_, M, T, rfl, rfl, by omega, cb, n9, c9, high, zs, HG5.out.drewN _, HOwn5.out, HMay.out, hroom, hrb, hcb, HK5.out.drewN _⟩
                                · have cR := rune_no HG5.out K (by omega)
                                  have hz : ¬ (0 ≤ K ∧ K ≤ (T.length : Int) - 1) := by omega
                                  have HZ := Lib.hid hz
                                  clear hin hz
                                  go_wp2_with (first | (go_at_call 14; refine cR.mono ?_; rintro e w' ⟨rfl, q, rfl⟩) | (go_at_call 7; refine (znum_no _ _ HZ.out _).mono ?_; rintro e w' ⟨rfl, rfl⟩) | (go_at_call 10; refine (num_any _ _).mono ?_; rintro e w' ⟨rfl, rfl⟩))
                                  go_meet
                                  case rel => exact ⟨at_, M, T, rfl, rfl, by omega, cb, n9, c9, high, zs, HG5.out.drewN _, HOwn5.out, HMay.out, hroom, hrb, hcb, HK5.out.drewN _⟩
                            case false =>
                              as_aux_lemma =>
                                have hln' : xs.length = ln := HN5.out.1
                                have cC := copy_any la ln lc xs w5 HN5.out (by omega)
                                have hM18 : M ≤ 1000000000000000000 := by omega
                                go_upto_region 28 with (go_at_call 15; refine cC.mono ?_; clear cC a0 a1 a2 a3; rintro e w6 ⟨hk6, B, c6, rfl, hn6, hB6⟩; have HK6 := Lib.hid hk6; have HN6 := Lib.hid hn6; have HB6 := Lib.hid hB6; have HG6 := Lib.hid (HG5.out.kept hk6 id id); have HA6 := Lib.hid (HA5.out.kept hk6 id); have cI := insert_all (HG5.out.kept hk6 id id) K B ln c6 xs hn6 (by omega) (by omega) (fun ad had => by have h1 := hB6 ad had; have h2 := heap_lt HG5.out.r; have h3 := heap_lt HG5.out.b; exact ⟨by omega, by omega⟩); have a1 := HA6.out.c1; have a3 := HA6.out.c3; clear hk6 hn6 hB6)
                                generalize hF : insF room' T xs K = F at cI
                                have HF := Lib.hid hF
                                clear hF
                                go_upto_region 31 with (first | (go_at_call 16; refine cI.mono ?_; clear cI a1 a3; rintro e w7 ⟨rfl, hk7, hg7, hg7'⟩; have HG7 := Lib.hid hg7; have HG7' := Lib.hid hg7'; have HA7 : Hid (AB w7 ab ado ai an la ln lc) := HA6.out.kept hk7 (by rintro (e | e) <;> omega); have HK7 := Lib.hid hk7; have a3 := HA7.out.c3; clear hg7 hg7' hk7) | (go_at_call 10; refine (num_any _ _).mono ?_; rintro e w' ⟨rfl, hw⟩; have hw2 := hw.symm; clear hw; subst hw2))
                                have hk27 : Kept (fun _ => False) w2 w7 := (HK5.out.trans HK6.out).fresh HK7.out (fun p hp e => by rcases e with e | e <;> omega)
                                have HK27 := Lib.hid hk27
                                have HN7 := Lib.hid (HN2.out.kept hk27 (fun _ _ => id))
                                have HNB7 := Lib.hid (HN6.out.kept HK7.out (fun a0 ha e => by have h0 := HB6.out a0 ha; have h1 := heap_lt HG5.out.r; have h2 := heap_lt HG5.out.b; rcases e with e | e <;> omega))
                                have HOwn7 : Hid (Own w7 w2.heap.size rb cb (.slice At T.length ct) T) := (HOwn5.out.kept HK6.out (fun _ _ => id)).kept HK7.out (fun g hg e => by
                                  have h2 := HOwn5.out.2.1
                                  have h3 := HOwn5.out.2.2
                                  rw [hg] at h2 h3
                                  rcases e with e | e
                                  · exact h2 (by rw [e])
                                  · exact h3 (by rw [e]))
                                clear hk27
                                go_loopw [22, 23] (fun v22 v23 wz => ∃ j : Nat, j ≤ ln ∧ v23 = .int .i64 j ∧ v22 = .bool (goodB xs j) ∧ ∃ q, wz = w7.drewN q) (fun _ v _ => ln - (intOf v).toNat)
                                case atStart => exact ⟨0, Nat.zero_le _, rfl, rfl, 0, rfl⟩
                                case round =>
                                  obtain ⟨j, hj, rfl, rfl, q, rfl⟩ := hrel
                                  have a3' : (w7.drewN q).cell? ⟨ab, 3, none⟩ = some (.slice la ln lc) := a3
                                  clear a3
                                  by_cases hlt : j < ln
                                  · obtain ⟨adl, x, rfl, hx, hc⟩ := HN7.out.cell hlt
                                    have hc' : (w7.drewN q).cell? (adl.add j) = some (.int .i64 x) := hc
                                    have hgn := good_next xs j x hx
                                    have HGN := Lib.hid hgn
                                    clear hc hx hgn
                                    cases hg : goodB xs j with
                                    | false =>
                                      have HGG := Lib.hid hg
                                      clear hg
                                      go_wp2_with fail
                                      go_roundw
                                      case rel => exact ⟨j + 1, by omega, by go_num, by rw [HGN.out, HGG.out]; rfl, _, rfl⟩
                                      case measure => simp [intOf]; omega
                                    | true =>
                                      have HGG := Lib.hid hg
                                      clear hg
                                      by_cases hm : May x
                                      · go_wp2_with (go_at_call 17; refine (lmay_yes x hm _).mono ?_; rintro e w' ⟨rfl, hw⟩; have hw2 := hw.symm; clear hw; subst hw2)
                                        go_roundw
                                        case rel => exact ⟨j + 1, by omega, by go_num, by rw [HGN.out, HGG.out, decide_eq_true hm]; rfl, _, rfl⟩
                                        case measure => simp [intOf]; omega
                                      · go_wp2_with (go_at_call 17; refine (lmay_no x hm _).mono ?_; rintro e w' ⟨rfl, hw⟩; have hw2 := hw.symm; clear hw; subst hw2)
                                        go_roundw
                                        case rel => exact ⟨j + 1, by omega, by go_num, by rw [HGN.out, HGG.out, decide_eq_false hm]; rfl, _, rfl⟩
                                        case measure => simp [intOf]; omega
                                  · obtain rfl : j = ln := by omega
                                    have hGA : goodB xs j = true ↔ ∀ x ∈ xs, May x := by rw [← hln']; exact good_all xs
                                    have cE := fun q' => eqnum_yes B la j c6 lc xs (w7.drewN q') HNB7.out HN7.out (by omega)
                                    by_cases h1 : 0 ≤ K ∧ K ≤ (T.length : Int)
                                    · have cN1 := fun W => znum_yes K _ h1 W
                                      by_cases h2 : ∀ x ∈ xs, May x
                                      · have hg : goodB xs j = true := hGA.2 h2
                                        rw [hg]
                                        clear hGA hg
                                        by_cases h3 : room' < T.length + xs.length
                                        · have e : F = 4 := by rw [← HF.out]; unfold insF; rw [if_neg (by simpa using h1), if_neg (by simpa using h2), if_pos h3]
                                          subst e
                                          have b4 : decide ((room' : Int) < (T.length : Int) + (j : Int)) = true := decide_eq_true (by omega)
                                          clear h1 h2 h3
                                          go_wp2_with (first | (go_at_call 7; refine (cN1 _).mono ?_; clear cN1; rintro e w' ⟨rfl, hw⟩; have hw2 := hw.symm; clear hw; subst hw2) | (go_at_call 18; refine (cE _).mono ?_; clear cE; rintro e w' ⟨rfl, q2, rfl⟩))
                                          go_meet
                                          case rel => exact ⟨at_, M, T, rfl, rfl, by omega, cb, n9, c9, high, zs, (HG7.out (by decide)).drewN _, HOwn7.out, HMay.out, hroom, hrb, hcb, HK27.out.drewN _⟩
                                        · have e : F = 0 := by rw [← HF.out]; unfold insF; rw [if_neg (by simpa using h1), if_neg (by simpa using h2), if_neg h3]
                                          subst e
                                          have b4 : decide ((room' : Int) < (T.length : Int) + (j : Int)) = false := decide_eq_false (by omega)
                                          obtain ⟨i, rfl⟩ : ∃ i : Nat, K = (i : Int) := ⟨K.toNat, by omega⟩
                                          have i0 : (0 : Int) ≤ (i : Int) := by omega
                                          have i1 : (i : Int) ≤ (T.length : Int) := by omega
                                          have hat : at_ ≤ 10000 := by have h1 := HG5.out.lh; have h2 := HG5.out.hn; have h3 := HG5.out.nr; have h4 := HG5.out.rr; omega
                                          have H2 := Lib.hid h2
                                          have H3 := Lib.hid h3
                                          clear h1 h2 h3
                                          go_upto_region 44 with (first | (go_at_call 7; refine (cN1 _).mono ?_; clear cN1; rintro e w' ⟨rfl, hw⟩; have hw2 := hw.symm; clear hw; subst hw2) | (go_at_call 18; refine (cE _).mono ?_; clear cE; rintro e w' ⟨rfl, q2, rfl⟩))
                                          obtain ⟨w9, hw9⟩ : ∃ w9, w7.drewN (q + q2) = w9 := ⟨_, rfl⟩
                                          obtain ⟨cb', n', c', high', zs', hcb', hG'⟩ := HG7'.out (by first | trivial | rfl)
                                          have hG9 := hG'.drewN (q + q2)
                                          have hO9 : Own (w7.drewN (q + q2)) w2.heap.size rb cb (.slice At T.length ct) T := HOwn7.out
                                          have hA9 : AB (w7.drewN (q + q2)) ab ado ai an la j lc := HA7.out
                                          have hN9 : Nums (w7.drewN (q + q2)) la j xs := HN7.out
                                          have hK9 : Kept (fun _ => False) w2 (w7.drewN (q + q2)) := HK27.out.drewN _
                                          rw [hw9] at hG9 hO9 hA9 hN9 hK9
                                          rw [hw9]
                                          clear hw9 a3'
                                          have HG9 := Lib.hid hG9
                                          have HO9 := Lib.hid hO9
                                          have HA9 := Lib.hid hA9
                                          have HN9 := Lib.hid hN9
                                          have HK9 := Lib.hid hK9
                                          have HSZ9 : Hid (w2.heap.size ≤ w9.heap.size) := hK9.size
                                          have HCB : Hid (w2.heap.size ≤ cb') := by
                                            have h1 := (HK5.out.trans HK6.out).size
                                            rcases hcb' with h | h
                                            · show _ ≤ _; omega
                                            · exact Nat.le_trans h1 h
                                          have HM0 := Lib.hid (mk_nil w9 w2.heap.size hK9.size)
                                          obtain ⟨hform9⟩ : Nonempty ((At = none ∧ T = [] ∧ ct = 0) ∨ ∃ g, At = some ⟨g, 0, none⟩ ∧ w2.heap.size ≤ g ∧ g < w9.heap.size ∧ g ≠ rb ∧ g ≠ cb) := by
                                            refine ⟨?_⟩
                                            obtain ⟨At', ct', e, hct', hf⟩ := own_form hO9
                                            injection e with e1 e2 e3
                                            subst e1
                                            subst e3
                                            exact hf
                                          obtain ⟨X1, hs1, hX1, hc1⟩ := cut_head hO9 rfl hct hform9 (show i ≤ T.length by omega)
                                          obtain ⟨X2, hs2, hX2, hc2⟩ := cut_tail hO9 rfl hct hform9 (show i ≤ T.length by omega)
                                          have hmx : max ((at_ : Int) - (i : Int)) ((i : Int) - (at_ : Int)) = (((at_ : Int) - (i : Int)).natAbs : Int) := by omega
                                          have HMX := Lib.hid hmx
                                          have HC1 := Lib.hid hc1
                                          have HC2 := Lib.hid hc2
                                          have HX1 := Lib.hid hX1
                                          have HX2 := Lib.hid hX2
                                          clear hG' hG9 hO9 hA9 hN9 hK9 hcb' hform9 hc1 hc2 hX1 hX2 hmx
                                          go_wp2_with (at_builtin; refine wpList_append_opt rfl (.tmp 173) (.tmp 176) rfl w2.heap.size _ _ _ rfl HM0.out.1 X1 i ct ((T.take i).map (Value.int .i32)) rfl HX1.out (by rw [List.length_map, List.length_take]; omega) (HC1.out _ (HO9.out.kept HM0.out.2.2 (fun _ _ => id))) (one_runes _) (by simp; omega) (Nat.le_trans HSZ9.out HM0.out.2.2.size) ?_; intro v1 w10 hown7 hgrow7 hat7; have HM1 := Lib.hid (HM0.out.app (t2 := T.take i) hown7 hgrow7 hat7 (by rw [List.nil_append, List.length_take]; simp; omega) (by simp)); clear hown7 hgrow7 hat7)
                                          go_loopw [24, 25] (fun v24 v25 wz => ∃ jj : Nat, jj ≤ j ∧ v25 = .int .i64 jj ∧ Mk w9 w2.heap.size v24 (T.take i ++ xs.take jj) wz) (fun _ v _ => j - (intOf v).toNat)
                                          case atStart => exact ⟨0, Nat.zero_le _, rfl, by have h := HM1.out; rw [List.nil_append] at h; simpa using h⟩
                                          case round =>
                                            obtain ⟨jj, hjj, rfl, hmk⟩ := hrel
                                            have HMK := Lib.hid hmk
                                            have a3 := (HA9.out.kept hmk.2.2 id).c3
                                            have hszr := hmk.2.2.size
                                            by_cases hlt2 : jj < j
                                            · obtain ⟨adl, x, rfl, hx, hc⟩ := (HN9.out.kept hmk.2.2 (fun _ _ => id)).cell hlt2
                                              have hmx := H2.out x (List.mem_of_getElem? hx)
                                              have x5 : IntKind.i32.wrap x = x := IntWalk.i32_in _ (by unfold May at hmx; omega)
                                              have HXX := Lib.hid hx
                                              have hlen0 : (T.take i ++ xs.take jj).length ≤ 100000 := by simp; omega
                                              have HL0 := Lib.hid hlen0
                                              have HSZR : Hid (w2.heap.size ≤ wr.heap.size) := Nat.le_trans HSZ9.out hszr
                                              clear hx hmx hmk hlen0 hszr
                                              go_wp2_with (at_builtin; refine wpList_append_opt rfl (.tmp 185) (.tmp 192) rfl w2.heap.size _ _ _ rfl (HMK.out.alloc (.cells #[.int .i32 x] 21)).1 (some ⟨wr.heap.size, 0, none⟩) 1 1 [.int .i32 x] rfl (fun h => by cases h) rfl (one_new wr x _) (fun u hu => by simp at hu; subst hu; rfl) (by have := HL0.out; omega) (by have := HSZR.out; simp; omega) ?_; intro v' w11 hown' hgrow' hat'; have HM11 := Lib.hid ((HMK.out.alloc (.cells #[.int .i32 x] 21)).app (t2 := [x]) hown' hgrow' hat' (by simp only [List.length_append, List.length_singleton]) (by simp only [List.map_append, List.map_cons, List.map_nil])); clear hown' hgrow' hat')
                                              go_roundw
                                              case rel => exact ⟨jj + 1, by omega, by go_num, by have h := HM11.out; rw [List.take_add_one, HXX.out, ← List.append_assoc]; exact h⟩
                                              case measure => simp [intOf]; omega
                                            · obtain rfl : jj = j := by omega
                                              have hxt : xs.take jj = xs := List.take_of_length_le (by omega)
                                              rw [hxt] at hmk
                                              have HMK2 := Lib.hid hmk
                                              have hlen0 : (T.take i ++ xs).length + T.length ≤ 100000 := by simp; omega
                                              have HL0 := Lib.hid hlen0
                                              clear hmk hxt hlen0 hszr
                                              go_wp2_with (at_builtin; refine wpList_append_opt rfl (.tmp 199) (.tmp 202) rfl w2.heap.size _ _ _ rfl HMK2.out.1 X2 (T.length - i) (ct - i) ((T.drop i).map (Value.int .i32)) rfl HX2.out (by rw [List.length_map, List.length_drop]) (HC2.out _ (HO9.out.kept HMK2.out.2.2 (fun _ _ => id))) (one_runes _) (by have := HL0.out; omega) (Nat.le_trans HSZ9.out HMK2.out.2.2.size) ?_; intro v2 w12 hown8 hgrow8 hat8; have HM12 := Lib.hid (HMK2.out.app (t2 := T.drop i) hown8 hgrow8 hat8 (by simp only [List.length_append, List.length_drop]) (by simp only [List.map_append])); clear hown8 hgrow8 hat8)
                                              go_meet
                                              case rel => exact ⟨i + jj, M + (((at_ : Int) - (i : Int)).natAbs : Nat), T.take i ++ xs ++ T.drop i, by go_num, by rw [HMX.out], by omega, cb', n', c', high', zs', (HG9.out.kept HM12.out.2.2 id id), HM12.out.own (heap_lt HG9.out.r) (heap_lt HG9.out.b), fun r hr => by
                                                rcases List.mem_append.1 hr with h | h
                                                · rcases List.mem_append.1 h with h | h
                                                  · exact HMay.out r (List.mem_of_mem_take h)
                                                  · exact H2.out r h
                                                · exact HMay.out r (List.mem_of_mem_drop h), hroom, hrb, HCB.out, HK9.out.trans HM12.out.2.2⟩
                                      · have hg : goodB xs j = false := by cases h : goodB xs j with | false => rfl | true => exact absurd (hGA.1 h) h2
                                        rw [hg]
                                        clear hGA hg
                                        have e : F = 1 := by rw [← HF.out]; unfold insF; rw [if_neg (by simpa using h1), if_pos h2]
                                        subst e
                                        clear h1 h2
                                        go_wp2_with (first | (go_at_call 7; refine (cN1 _).mono ?_; clear cN1; rintro e w' ⟨rfl, hw⟩; have hw2 := hw.symm; clear hw; subst hw2) | (go_at_call 18; refine (cE _).mono ?_; clear cE; rintro e w' ⟨rfl, q2, rfl⟩))
                                        go_meet
                                        case rel => exact ⟨at_, M, T, rfl, rfl, by omega, cb, n9, c9, high, zs, (HG7.out (by decide)).drewN _, HOwn7.out, HMay.out, hroom, hrb, hcb, HK27.out.drewN _⟩
                                    · have cN1 := fun W => znum_no K _ h1 W
                                      have e : F = 3 := by rw [← HF.out]; unfold insF; rw [if_pos h1]
                                      subst e
                                      generalize goodB xs j = gg
                                      clear hGA h1
                                      go_wp2_with (first | (go_at_call 7; refine (cN1 _).mono ?_; clear cN1; rintro e w' ⟨rfl, hw⟩; have hw2 := hw.symm; clear hw; subst hw2) | (go_at_call 18; refine (cE _).mono ?_; clear cE; rintro e w' ⟨rfl, q2, rfl⟩))
                                      go_meet
                                      case rel => exact ⟨at_, M, T, rfl, rfl, by omega, cb, n9, c9, high, zs, (HG7.out (by decide)).drewN _, HOwn7.out, HMay.out, hroom, hrb, hcb, HK27.out.drewN _⟩
                case rest =>
                  as_aux_lemma =>
                    obtain ⟨at1, M1, T1, rfl, rfl, hM1, cb1, n1, c1, high1, zs1, hG1, hO1, hMay1, hroom1, hrb1, hcb1, hK1⟩ := hcut
                    obtain ⟨At1, ct1, rfl, hct1, hform1⟩ := own_form hO1
                    have hcv : ∀ q, (convert 34 9 (.slice At1 T1.length ct1)).run Tryd.prog (wc.drewN q) = .ok (.string (runesBytes T1)) (wc.drewN q) := fun q => own_text (w := wc.drewN q) hO1 rfl hct1 hform1
                    have cT := fun q => text_any (hG1.drewN q)
                    have cL := fun q => G_len (hG1.drewN q)
                    have cG := fun q => quiet_same (gap_any (hG1.drewN q))
                    have cM := fun q => quiet_same (moves_any (hG1.drewN q) (by omega))
                    have HG1 := Lib.hid hG1
                    have HO1 := Lib.hid hO1
                    have HMay1 := Lib.hid hMay1
                    have HK1' := Lib.hid hK1
                    clear hG1 hO1 hMay1 hK1 hform1
                    generalize hRB : runesBytes T1 = RB at hcv cT
                    clear hRB
                    go_wp2_with fail
                    go_quiet ((first | (go_at_call 19; exact Calls.quiet_of (cT _)) | (go_at_call 20; exact Calls.quiet_of (cL _)) | (go_at_call 21; exact Calls.quiet_of (cG _)) | (go_at_call 22; exact Calls.quiet_of (cM _))))
                    go_wp2_with fail
                    go_roundw
                    case rel => exact ⟨k + 1, at1, M1, T1, by omega, by omega, by go_num, rfl, rfl, by omega, cb1, n1, c1, high1, zs1, HG1.out.drewN _, HO1.out, HMay1.out, hroom1, hrb1, hcb1, HK1'.out.drewN _⟩
                    case measure => simp [intOf]; omega
end Go.Proofs.YthhlchgnjdfpeaaDoor
