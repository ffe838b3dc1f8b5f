/-
  REGISTERS, the reference's: what is kept.
-/
import Derived.Test.YtackgnkajffhiaaDoorReF
import Derived.Test.YtackgnkajffhiaaDoorReD
import Derived.BigRegion
set_option linter.unusedVariables false
namespace Go.Proofs.YtackgnkajffhiaaDoor
open Go Go.RowKit

theorem ba_nil (s : ByteArray) : s ++ (⟨#[]⟩ : ByteArray) = s := by
  apply ByteArray.ext
  simp
theorem nil_ba (s : ByteArray) : (⟨#[]⟩ : ByteArray) ++ s = s := by
  apply ByteArray.ext
  simp
/-- What comes behind what was. -/
def jw (qs : ByteArray) (qb : Bool) (s : ByteArray) (b : Bool) : ByteArray := if (b || qb) = true ∧ qs ≠ ⟨#[]⟩ then qs ++ ⟨#[10]⟩ ++ s else qs ++ ⟨#[]⟩ ++ s
theorem bh_was (M : List RegS) (z : Int) (s : ByteArray) (b : Bool) (hM : Rs.okB M = true) (hs : mayB s = true) :
    ∃ wn qs qb fd, fndV (Rs.get M (z + 32)) = .tuple #[regV ⟨wn, qs, qb⟩, .bool fd] ∧ qs.size ≤ 4000 ∧ Rs.bh M z s b = if mayB (jw qs qb s b) = true then some ⟨z + 32, jw qs qb s b, b || qb⟩ else none := by
  unfold Rs.bh
  cases hg : Rs.get M (z + 32) with
  | none =>
    refine ⟨0, ⟨#[]⟩, false, false, rfl, Nat.zero_le _, ?_⟩
    have e : jw ⟨#[]⟩ false s b = s := by
      unfold jw
      rw [if_neg (fun h => h.2 rfl), ba_nil, nil_ba]
    rw [e, if_pos hs, Bool.or_false]
  | some q =>
    have hm := (Rs.get_mem hg).1
    obtain ⟨i, hi, hq⟩ := List.getElem_of_mem hm
    have hq' : M[i]? = some q := by rw [List.getElem?_eq_getElem hi, hq]
    refine ⟨q.n, q.s, q.b, true, rfl, mayB_size (Rs.ok_of hM i q hq').1.2, ?_⟩
    have e : jw q.s q.b s b = Rs.jn q s b := by
      unfold jw Rs.jn
      rw [Bool.or_comm, ba_nil]
    rw [e, Bool.or_comm]
theorem told_hole (M : List RegS) (s : ByteArray) (b d : Bool) : Rs.told M 95 s b d = some M := by
  cases d <;> rfl
theorem told_small (M : List RegS) {z : Int} (s : ByteArray) (b d : Bool) (h0 : z ≠ 95) (hs : Rs.Sm z) : Rs.told M z s b d = some (Rs.put (Rs.put M ⟨z, s, b⟩) ⟨34, s, b⟩) := by
  have hk : Rs.kpA M z s b = some (Rs.put (Rs.put M ⟨z, s, b⟩) ⟨34, s, b⟩, false) := by unfold Rs.kpA; rw [if_neg h0, if_pos hs]
  unfold Rs.told Rs.dlA Rs.ykA
  rw [hk]
  cases d <;> rfl
theorem told_great (M : List RegS) {z : Int} (s : ByteArray) (b d : Bool) (h0 : z ≠ 95) (hs : ¬ Rs.Sm z) (hg : Rs.Gt z) : Rs.told M z s b d = (Rs.bh M z s b).map fun r => Rs.put (Rs.put M r) ⟨34, r.s, r.b⟩ := by
  have hk : Rs.kpA M z s b = (Rs.bh M z s b).map fun r => (Rs.put (Rs.put M r) ⟨34, r.s, r.b⟩, false) := by unfold Rs.kpA; rw [if_neg h0, if_neg hs, if_pos hg]
  unfold Rs.told Rs.dlA Rs.ykA
  rw [hk]
  cases Rs.bh M z s b <;> cases d <;> rfl
theorem told_else (M : List RegS) {z : Int} (s : ByteArray) (b d : Bool) (h0 : z ≠ 95) (hs : ¬ Rs.Sm z) (hg : ¬ Rs.Gt z) : Rs.told M z s b d = some (if d = true then (if (b || s.data.toList.contains 10) = true then Rs.put (Rs.turn (Rs.put M ⟨34, s, b⟩)) ⟨49, s, b⟩ else Rs.put (Rs.put M ⟨34, s, b⟩) ⟨45, s, b⟩) else Rs.put (Rs.put M ⟨34, s, b⟩) ⟨48, s, b⟩) := by
  have hk : Rs.kpA M z s b = some (Rs.put M ⟨34, s, b⟩, true) := by unfold Rs.kpA; rw [if_neg h0, if_neg hs, if_neg hg]
  unfold Rs.told Rs.dlA Rs.ykA
  rw [hk]
  cases d <;> rfl
theorem contains_step (l : List UInt8) {k : Nat} {x : UInt8} (h : l[k]? = some x) : (l.take (k + 1)).contains 10 = ((l.take k).contains 10 || (x == 10)) := by
  rw [List.take_add_one, h]
  simp only [Option.toList_some, List.contains_eq_any_beq, List.any_append, List.any_cons, List.any_nil, Bool.or_false]
  rw [BEq.comm (a := x)]
theorem tls_len (X : List RegS) : ∀ i, (Rs.tls X i).length ≤ X.length + i
  | 0 => Nat.le_refl _
  | i + 1 => by
    have ih := tls_len X i
    unfold Rs.tls Rs.tl
    split
    · rename_i r _
      have := wi_len (Rs.tls X i) ⟨57 - (i : Int), r.s, r.b⟩
      omega
    · have := Rs.wo_len (Rs.tls X i) (57 - (i : Int))
      omega
set_option maxRecDepth 100000 in
set_option maxHeartbeats 16000000 in
theorem rkeep_hole (v : Value) (M : List RegS) (z : Int) (s : ByteArray) (b d : Bool) (w : World) (h : Sl w v M) (hn : M.length ≤ 90000) (hM : Rs.okB M = true) (hs : mayB s = true) (hT : Tabs w) (hz : z = 95) :
    Calls Tryd.prog 24 #[v, .int .i64 z, .string s, .bool b, .bool d] w fun e w' => TellOk w' w.heap.size (Rs.told M z s b d) e ∧ Kept (fun _ => False) w w' := by
  have hss : s.size ≤ 140737488351232 := by have := mayB_size hs; omega
  have hinc := Rs.inc_of_okB hM
  have cL := fun W (hk : Kept (fun _ => False) w W) => copyregs_any v M W (h.kept hk) (by omega)
  have HK0 := Lib.hid (Kept.refl (fun _ => False) w)
  have HSS := Lib.hid hss
  have HN := Lib.hid hn
  have HINC := Lib.hid hinc
  subst hz
  rw [told_hole]
  clear h hn hM hs hT hss hinc
  go_enter Tryd.func24, Tryd.ntmps24
  go_wp2_with (go_at_call 6; refine (cL _ HK0.out).mono ?_; clear cL; rintro e w1 ⟨⟨v1, rfl, hs1⟩, hk1⟩; have HS1 := Lib.hid hs1; have HK1 := Lib.hid hk1; clear hs1 hk1)
  go_ret2
  exact ⟨⟨v1, rfl, HS1.out⟩, HK1.out⟩
set_option maxRecDepth 100000 in
set_option maxHeartbeats 16000000 in
theorem rkeep_small (v : Value) (M : List RegS) (z : Int) (s : ByteArray) (b d : Bool) (w : World) (h : Sl w v M) (hn : M.length ≤ 90000) (hM : Rs.okB M = true) (hs : mayB s = true) (hT : Tabs w) (h0 : z ≠ 95) (hsm : Rs.Sm z) :
    Calls Tryd.prog 24 #[v, .int .i64 z, .string s, .bool b, .bool d] w fun e w' => TellOk w' w.heap.size (Rs.told M z s b d) e ∧ Kept (fun _ => False) w w' := by
  have hss : s.size ≤ 140737488351232 := by have := mayB_size hs; omega
  have hinc := Rs.inc_of_okB hM
  have cL := fun W (hk : Kept (fun _ => False) w W) => copyregs_any v M W (h.kept hk) (by omega)
  have HK0 := Lib.hid (Kept.refl (fun _ => False) w)
  have HSS := Lib.hid hss
  have HN := Lib.hid hn
  have HINC := Lib.hid hinc
  have HE := Lib.hid (told_small M s b d h0 hsm)
  have cS := fun W => btw_any z 97 122 W
  rw [decide_eq_true (show 97 ≤ z ∧ z ≤ 122 from hsm)] at cS
  have b0 : (z == 95) = false := beq_eq_false_iff_ne.2 h0
  have b1 : decide (z < 97) = false := decide_eq_false (by have := hsm.1; omega)
  clear h hn hM hs hT hss hinc h0 hsm
  go_enter Tryd.func24, Tryd.ntmps24
  go_upto_region 6 with (first | (go_at_call 6; refine (cL _ HK0.out).mono ?_; clear cL; rintro e w1 ⟨⟨v1, rfl, hs1⟩, hk1⟩; have HS1 := Lib.hid hs1; have HK1 := Lib.hid hk1; clear hs1 hk1) | (go_at_call 36; refine (cS _).mono ?_; clear cS; rintro e w' ⟨rfl, hw⟩; have hw2 := hw.symm; subst hw2))
  have hq2 := heap_alloc_new w1 (regO ⟨z, s, b⟩)
  have hk2 : Kept (fun _ => False) w1 (w1.alloc (regO ⟨z, s, b⟩)) := (Kept.refl _ _).alloc _
  have HSQ := Lib.hid (HS1.out.keep hk2)
  have HKQ := Lib.hid (HK1.out.trans hk2)
  have HZQ := Lib.hid hq2
  have HQL : Hid (∀ k, v1.ownBlock = some k → k < w1.heap.size) := fun k hk => (HS1.out.lt k hk).2
  have HQW0 : Hid (w.heap.size ≤ w1.heap.size) := HK1.out.size
  clear hq2 hk2
  simp only [regO] at HSQ HKQ HZQ
  generalize w1.alloc (.cells #[.int .i64 z, .string s, .bool b] 41) = w2 at *
  generalize hqq : w1.heap.size = q at *
  have HQW : Hid (w.heap.size ≤ q) := HQW0.out
  clear hqq
  obtain ⟨⟨p0, p1, p2⟩, f0, f1, f2⟩ := rzs (r := ⟨z, s, b⟩) HZQ.out
  have hwa : (Rs.wi M ⟨z, s, b⟩).length ≤ 90001 := by have := wi_len M ⟨z, s, b⟩; have := HN.out; omega
  go_upto_region 16 with (go_at_call 38; refine (rwith_any v1 M ⟨z, s, b⟩ _ HSQ.out.sl (by have := HN.out; omega) HSS.out).mono ?_; clear p0 p1 p2 f0 f1 f2; rintro e w3 ⟨⟨v3, rfl, hs3⟩, hk3⟩; have HS3 := Lib.hid hs3; have HK3 := Lib.hid hk3; clear hs3 hk3)
  have HZ3 := Lib.hid (HK3.out.cellsAt HZQ.out id)
  obtain ⟨⟨p0, p1, p2⟩, f0, f1, f2⟩ := rzs (r := ⟨z, s, b⟩) HZ3.out
  have hz4 : (w3.setCell ⟨q, 0, none⟩ (.int .i64 34)).heap[q]? = some (regO ⟨34, s, b⟩) := heap_set HZ3.out (.int .i64 34)
  have HZ4 := Lib.hid hz4
  have hk4 : Kept (fun p => p = q) w3 (w3.setCell ⟨q, 0, none⟩ (.int .i64 34)) := (Kept.refl (fun p => p = q) w3).setCell (p := ⟨q, 0, none⟩) rfl _
  have HK4 := Lib.hid hk4
  have HS4 := Lib.hid (HS3.out.kept hk4 (fun k hk hq => by have := (HS3.out.lt k hk).1; have := heap_lt HZQ.out; have hq : k = q := hq; omega))
  clear hk4 hz4
  go_upto_region 17 with fail
  clear p0 p1 p2 f0 f1 f2
  simp only [regO] at HZ4
  generalize w3.setCell ⟨q, 0, none⟩ (.int .i64 34) = w4 at *
  obtain ⟨⟨p0, p1, p2⟩, f0, f1, f2⟩ := rzs (r := ⟨34, s, b⟩) HZ4.out
  go_wp2_with (go_at_call 38; refine (rwith_any v3 _ ⟨34, s, b⟩ _ HS4.out.sl (by omega) HSS.out).mono ?_; rintro e w5 ⟨⟨v5, rfl, hs5⟩, hk5⟩; have HS5 := Lib.hid hs5; have HK5 := Lib.hid hk5; clear hs5 hk5)
  go_ret2
  refine ⟨?_, (HKQ.out.trans HK3.out).fresh (HK4.out.trans HK5.out.any) (fun p hp e => by have e : p = q := e; have := HQW.out; omega)⟩
  rw [HE.out]
  rw [← Rs.wi_put _ (Rs.inc_put _ HINC.out), ← Rs.wi_put _ HINC.out]
  exact ⟨v5, rfl, HS5.out.mono (Nat.le_trans HKQ.out.size (Nat.le_trans HK3.out.size HK4.out.size))⟩
set_option maxRecDepth 100000 in
set_option maxHeartbeats 16000000 in
theorem rkeep_else (v : Value) (M : List RegS) (z : Int) (s : ByteArray) (b d : Bool) (w : World) (h : Sl w v M) (hn : M.length ≤ 90000) (hM : Rs.okB M = true) (hs : mayB s = true) (hT : Tabs w) (h0 : z ≠ 95) (hsm : ¬ Rs.Sm z) (hgr : ¬ Rs.Gt z) :
    Calls Tryd.prog 24 #[v, .int .i64 z, .string s, .bool b, .bool d] w fun e w' => TellOk w' w.heap.size (Rs.told M z s b d) e ∧ Kept (fun _ => False) w w' := by
  have hss : s.size ≤ 140737488351232 := by have := mayB_size hs; omega
  have hinc := Rs.inc_of_okB hM
  have cL := fun W (hk : Kept (fun _ => False) w W) => copyregs_any v M W (h.kept hk) (by omega)
  have HK0 := Lib.hid (Kept.refl (fun _ => False) w)
  have HSS := Lib.hid hss
  have HN := Lib.hid hn
  have HINC := Lib.hid hinc
  have HE := Lib.hid (told_else M s b d h0 hsm hgr)
  have cS := fun W => btw_any z 97 122 W
  rw [decide_eq_false (show ¬ (97 ≤ z ∧ z ≤ 122) from hsm)] at cS
  have cG := fun W => btw_any z 65 90 W
  rw [decide_eq_false (show ¬ (65 ≤ z ∧ z ≤ 90) from hgr)] at cG
  have b0 : (z == 95) = false := beq_eq_false_iff_ne.2 h0
  have hwp := Rs.wi_put (M := M) ⟨34, s, b⟩ hinc
  rw [← hwp] at HE
  have hinX : Rs.inc (Rs.wi M ⟨34, s, b⟩) := Rs.inc_wi _ hinc
  have hXl := wi_len M ⟨34, s, b⟩
  have cX := fun (v' : Value) (r : RegS) W (hv : Sl W v' M) (hr : r.s.size ≤ 140737488351232) => rwith_any v' M r W hv (by omega) hr
  obtain ⟨X, hX⟩ : ∃ X, Rs.wi M ⟨34, s, b⟩ = X := ⟨_, rfl⟩
  rw [hX] at HE hinX hXl
  have cX1 := fun (v' : Value) W (hv : Sl W v' M) => cX v' ⟨34, s, b⟩ W hv hss
  simp only [hX] at cX1
  have HIX := Lib.hid hinX
  have HXL : Hid (X.length ≤ 90001) := by show _ ≤ _; omega
  clear h hn hM hs hT hss hinc h0 hsm hgr hwp hX hinX cX hXl
  go_enter Tryd.func24, Tryd.ntmps24
  go_upto_region 19 with (first
    | (go_at_call 6; refine (cL _ HK0.out).mono ?_; clear cL; rintro e w1 ⟨⟨v1, rfl, hs1⟩, hk1⟩; have HS1 := Lib.hid hs1; have HK1 := Lib.hid hk1; clear hs1 hk1)
    | (go_at_call 36; first | (refine (cS _).mono ?_; clear cS; rintro e w' ⟨rfl, hw⟩; have hw2 := hw.symm; subst hw2) | (refine (cG _).mono ?_; clear cG; rintro e w' ⟨rfl, hw⟩; have hw2 := hw.symm; subst hw2))
    | (go_at_call 38; refine (cX1 _ _ HS1.out.sl).mono ?_; clear cX1; rintro e w2 ⟨⟨v2, rfl, hs2⟩, hk2⟩; have HS2 := Lib.hid (hs2.mono HK1.out.size); have HK2 := Lib.hid (HK1.out.trans hk2); clear hs2 hk2))
  cases d
  · have HE2 : Hid (Rs.told M z s b false = some (Rs.wi X ⟨48, s, b⟩)) := by
      show _ = _
      rw [HE.out, Rs.wi_put _ HIX.out]
      rfl
    go_wp2_with (go_at_call 38; refine (rwith_any v2 X ⟨48, s, b⟩ _ HS2.out.sl (by have := HXL.out; omega) HSS.out).mono ?_; rintro e w3 ⟨⟨v3, rfl, hs3⟩, hk3⟩; have HS3 := Lib.hid (hs3.mono HK2.out.size); have HK3 := Lib.hid (HK2.out.trans hk3); clear hs3 hk3)
    go_ret2
    rw [HE2.out]
    exact ⟨⟨v3, rfl, HS3.out⟩, HK3.out⟩
  · have HSZ : Hid (s.size ≤ 140737488351232) := HSS.out
    go_wp2_with fail
    go_loopw [16, 17] (fun rv i wr => ∃ k : Nat, k ≤ s.size ∧ i = .int .i64 k ∧ rv = .bool (b || (s.data.toList.take k).contains 10) ∧ wr = w2) (fun _ i _ => s.size - (intOf i).toNat)
    case atStart => exact ⟨0, Nat.zero_le _, rfl, by simp, rfl⟩
    case round =>
      obtain ⟨k, hk, rfl, rfl, rfl⟩ := hrel
      obtain ⟨R, hR⟩ : ∃ R, (b || (s.data.toList.take k).contains 10) = R := ⟨_, rfl⟩
      rw [hR]
      have HR := Lib.hid hR
      clear hR
      by_cases hlt : k < s.size
      · obtain ⟨x, hb⟩ : ∃ x, s[k]'hlt = x := ⟨_, rfl⟩
        have hlist : Hid (s.data.toList[k]? = some x) := by
          rw [← hb]
          exact byte_at s k hlt
        have HST := Lib.hid (contains_step s.data.toList hlist.out)
        have b2 : decide (k < s.size) = true := decide_eq_true hlt
        have b3 : decide ((k : Int) < (s.size : Int)) = true := decide_eq_true (by omega)
        have t1 : (0 : Int) ≤ (k : Int) := by omega
        have hss2 := HSZ.out
        cases R
        · have hE : (((x.toNat : Int) == 10) = true ∧ (x == 10) = true) ∨ (((x.toNat : Int) == 10) = false ∧ (x == 10) = false) := by
            by_cases hx : x = 10
            · exact .inl ⟨by rw [hx]; rfl, by rw [hx]; rfl⟩
            · refine .inr ⟨?_, beq_eq_false_iff_ne.2 hx⟩
              rw [beq_eq_false_iff_ne]
              intro h
              exact hx (UInt8.toNat_inj.1 (by simp; omega))
          rcases hE with ⟨b4, hx⟩ | ⟨b4, hx⟩
          · have HR2 : Hid ((b || (s.data.toList.take (k + 1)).contains 10) = true) := by show _ = _; rw [HST.out, hx, Bool.or_true, Bool.or_true]
            clear hx
            go_wp2_with fail
            go_roundw
            case rel => exact ⟨k + 1, by omega, by go_num, by rw [HR2.out], (by first | rfl | trivial)⟩
            case measure => simp [intOf] <;> omega
          · have HR2 : Hid ((b || (s.data.toList.take (k + 1)).contains 10) = false) := by show _ = _; rw [HST.out, hx, Bool.or_false, HR.out]
            clear hx
            go_wp2_with fail
            go_roundw
            case rel => exact ⟨k + 1, by omega, by go_num, by rw [HR2.out], (by first | rfl | trivial)⟩
            case measure => simp [intOf] <;> omega
        · have HR2 : Hid ((b || (s.data.toList.take (k + 1)).contains 10) = true) := by show _ = _; rw [HST.out, ← Bool.or_assoc, HR.out]; rfl
          go_wp2_with fail
          go_roundw
          case rel => exact ⟨k + 1, by omega, by go_num, by rw [HR2.out], (by first | rfl | trivial)⟩
          case measure => simp [intOf] <;> omega
      · obtain rfl : k = s.size := by omega
        have b2 : decide (s.size < s.size) = false := decide_eq_false (by omega)
        have b3 : decide ((s.size : Int) < (s.size : Int)) = false := decide_eq_false (by omega)
        have HR2 : Hid ((b || s.data.toList.contains 10) = R) := by
          have h := HR.out
          rwa [List.take_of_length_le (by have := Lib.size_eq s; omega)] at h
        cases R
        · have HE2 : Hid (Rs.told M z s b true = some (Rs.wi X ⟨45, s, b⟩)) := by
            show _ = _
            rw [HE.out, if_pos (by first | rfl | trivial), if_neg (by rw [HR2.out]; decide), Rs.wi_put _ HIX.out]
          go_wp2_with (go_at_call 38; refine (rwith_any v2 X ⟨45, s, b⟩ _ HS2.out.sl (by have := HXL.out; omega) HSS.out).mono ?_; rintro e w3 ⟨⟨v3, rfl, hs3⟩, hk3⟩; have HS3 := Lib.hid (hs3.mono HK2.out.size); have HK3 := Lib.hid (HK2.out.trans hk3); clear hs3 hk3)
          go_ret2
          rw [HE2.out]
          exact ⟨⟨v3, rfl, HS3.out⟩, HK3.out⟩
        · have HE2 : Hid (Rs.told M z s b true = some (Rs.wi (Rs.tls X 8) ⟨49, s, b⟩)) := by
            show _ = _
            rw [HE.out, if_pos (by first | rfl | trivial), if_pos (by rw [HR2.out]), Rs.tls_turn HIX.out]
          go_wp2_with fail
          go_loopw [0, 18] (fun v nn wr => ∃ i : Nat, i ≤ 8 ∧ nn = .int .i32 (57 - (i : Int)) ∧ Ow wr w.heap.size v (Rs.tls X i) ∧ Kept (fun _ => False) w wr) (fun _ nn _ => (intOf nn - 49).toNat)
          case atStart => exact ⟨0, by omega, rfl, HS2.out, HK2.out⟩
          case round =>
            obtain ⟨i, hi, rfl, hown, hkept⟩ := hrel
            have HK := Lib.hid hkept
            have HO := Lib.hid hown
            have hTL := tls_len X i
            have HTL : Hid ((Rs.tls X i).length ≤ 90010) := by show _ ≤ _; have := HXL.out; omega
            clear hkept hown hTL
            obtain ⟨m, hm⟩ : ∃ m : Int, 57 - (i : Int) = m := ⟨_, rfl⟩
            rw [hm]
            have HM := Lib.hid hm
            have hm1 : 49 ≤ m ∧ m ≤ 57 := by omega
            clear hm
            by_cases hlt : i < 8
            · have b4 : decide (49 < m) = true := decide_eq_true (by have := HM.out; omega)
              have e1 : IntKind.i64.wrap m = m := IntWalk.i64_in _ ⟨by omega, by omega⟩
              have e2 : IntKind.i64.wrap (m - 1) = m - 1 := IntWalk.i64_in _ ⟨by omega, by omega⟩
              have e3 : IntKind.i32.wrap (m - 1) = m - 1 := by
                have : ∀ j : Fin 9, IntKind.i32.wrap (((49 + j.1 : Nat) : Int) - 1) = ((49 + j.1 : Nat) : Int) - 1 := by decide
                have h := this ⟨(m - 49).toNat, by omega⟩
                have e : ((49 + (m - 49).toNat : Nat) : Int) = m := by omega
                simpa [e] using h
              have HTLS : Hid (Rs.tls X (i + 1) = Rs.tl (Rs.tls X i) m) := by show _ = _; rw [← HM.out]; rfl
              have cR := reg_any _ (Rs.tls X i) (m - 1) wr HO.out.sl (by have := HTL.out; omega)
              generalize Rs.tls X i = Y at *
              cases hg : Rs.get Y (m - 1) with
              | none =>
                have HTL2 : Hid (Rs.tls X (i + 1) = Rs.wo Y m) := by show _ = _; rw [HTLS.out]; unfold Rs.tl; rw [hg]
                rw [hg] at cR
                unfold fndV at cR
                simp only at cR
                clear hg
                go_upto_region 32 with (go_at_call 37; refine cR.mono ?_; clear cR; rintro e w3 ⟨rfl, hk3⟩; have HK3 := Lib.hid hk3; clear hk3)
                have hz4 := heap_alloc_new w3 (regO zReg)
                have hk4 : Kept (fun _ => False) wr (w3.alloc (regO zReg)) := HK3.out.trans ((Kept.refl _ _).alloc _)
                have HZ4 := Lib.hid hz4
                have HK4 := Lib.hid hk4
                have HG4 : Hid (wr.heap.size ≤ w3.heap.size) := HK3.out.size
                clear hz4 hk4
                simp only [regO] at HZ4 HK4
                generalize w3.alloc (.cells #[.int .i64 0, .string ⟨#[]⟩, .bool false] 41) = w4 at *
                generalize w3.heap.size = g at *
                obtain ⟨⟨d0, d1, d2⟩, f0, f1, f2⟩ := rzs (r := zReg) HZ4.out
                have hk5 : Kept (fun p => p = g) w4 (w4.setCell ⟨g, 0, none⟩ (.int .i64 m)) := (Kept.refl (fun p => p = g) w4).setCell (p := ⟨g, 0, none⟩) rfl _
                have HS5 := Lib.hid ((HO.out.keep HK4.out).kept hk5 (fun k hk e => by have e : k = g := e; have := (HO.out.lt k hk).2; have := HG4.out; omega))
                have HK5 : Hid (Kept (fun _ => False) w (w4.setCell ⟨g, 0, none⟩ (.int .i64 m))) := (HK.out.trans HK4.out).fresh hk5 (fun p hp e => by have e : p = g := e; have := HG4.out; have := HK.out.size; omega)
                clear hk5
                go_upto_region 33 with fail
                clear d0 d1 d2 f0 f1 f2
                generalize w4.setCell ⟨g, 0, none⟩ (.int .i64 m) = w5 at *
                go_wp2_with (go_at_call 39; refine (rwithout_any _ Y m _ HS5.out.sl (by have := HTL.out; omega)).mono ?_; rintro e w6 ⟨⟨v6, rfl, hs6⟩, hk6⟩; have HS6 := Lib.hid (hs6.mono HK5.out.size); have HK6 := Lib.hid (HK5.out.trans hk6); clear hs6 hk6)
                go_roundw
                case rel => exact ⟨i + 1, by omega, by congr 1; have := HM.out; omega, by rw [HTL2.out]; exact HS6.out, HK6.out⟩
                case measure => have := HM.out; simp [intOf]; omega
              | some r =>
                have hrs := HO.out.sz r (Rs.get_mem hg).1
                have HTL2 : Hid (Rs.tls X (i + 1) = Rs.wi Y ⟨m, r.s, r.b⟩) := by show _ = _; rw [HTLS.out]; unfold Rs.tl; rw [hg]
                rw [hg] at cR
                unfold fndV at cR
                simp only at cR
                have HRS := Lib.hid hrs
                clear hg hrs
                obtain ⟨rn, rs', rb'⟩ := r
                simp only at HTL2 HRS cR
                go_upto_region 32 with (go_at_call 37; refine cR.mono ?_; clear cR; rintro e w3 ⟨rfl, hk3⟩; have HK3 := Lib.hid hk3; clear hk3)
                have hz4 := heap_alloc_new w3 (regO ⟨rn, rs', rb'⟩)
                have hk4 : Kept (fun _ => False) wr (w3.alloc (regO ⟨rn, rs', rb'⟩)) := HK3.out.trans ((Kept.refl _ _).alloc _)
                have HZ4 := Lib.hid hz4
                have HK4 := Lib.hid hk4
                have HG4 : Hid (wr.heap.size ≤ w3.heap.size) := HK3.out.size
                clear hz4 hk4
                simp only [regO] at HZ4 HK4
                generalize w3.alloc (.cells #[.int .i64 rn, .string rs', .bool rb'] 41) = w4 at *
                generalize w3.heap.size = g at *
                obtain ⟨⟨d0, d1, d2⟩, f0, f1, f2⟩ := rzs (r := ⟨rn, rs', rb'⟩) HZ4.out
                have hz5 : (w4.setCell ⟨g, 0, none⟩ (.int .i64 m)).heap[g]? = some (regO ⟨m, rs', rb'⟩) := heap_set HZ4.out _
                have hk5 : Kept (fun p => p = g) w4 (w4.setCell ⟨g, 0, none⟩ (.int .i64 m)) := (Kept.refl (fun p => p = g) w4).setCell (p := ⟨g, 0, none⟩) rfl _
                have HZ5 := Lib.hid hz5
                have HS5 := Lib.hid ((HO.out.keep HK4.out).kept hk5 (fun k hk e => by have e : k = g := e; have := (HO.out.lt k hk).2; have := HG4.out; omega))
                have HK5 : Hid (Kept (fun _ => False) w (w4.setCell ⟨g, 0, none⟩ (.int .i64 m))) := (HK.out.trans HK4.out).fresh hk5 (fun p hp e => by have e : p = g := e; have := HG4.out; have := HK.out.size; omega)
                clear hk5 hz5
                go_upto_region 33 with fail
                clear d0 d1 d2 f0 f1 f2
                simp only [regO] at HZ5
                generalize w4.setCell ⟨g, 0, none⟩ (.int .i64 m) = w5 at *
                obtain ⟨⟨d0, d1, d2⟩, f0, f1, f2⟩ := rzs (r := ⟨m, rs', rb'⟩) HZ5.out
                go_wp2_with (go_at_call 38; refine (rwith_any _ Y ⟨m, rs', rb'⟩ _ HS5.out.sl (by have := HTL.out; omega) HRS.out).mono ?_; rintro e w6 ⟨⟨v6, rfl, hs6⟩, hk6⟩; have HS6 := Lib.hid (hs6.mono HK5.out.size); have HK6 := Lib.hid (HK5.out.trans hk6); clear hs6 hk6)
                go_roundw
                case rel => exact ⟨i + 1, by omega, by congr 1; have := HM.out; omega, by rw [HTL2.out]; exact HS6.out, HK6.out⟩
                case measure => have := HM.out; simp [intOf]; omega
            · obtain rfl : i = 8 := by omega
              have b4 : decide (49 < m) = false := decide_eq_false (by have := HM.out; omega)
              generalize Rs.tls X 8 = Y at *
              go_wp2_with (go_at_call 38; refine (rwith_any _ Y ⟨49, s, b⟩ _ HO.out.sl (by have := HTL.out; omega) HSS.out).mono ?_; rintro e w3 ⟨⟨v3, rfl, hs3⟩, hk3⟩; have HS3 := Lib.hid (hs3.mono HK.out.size); have HK3 := Lib.hid (HK.out.trans hk3); clear hs3 hk3)
              go_ret2
              rw [HE2.out]
              exact ⟨⟨v3, rfl, HS3.out⟩, HK3.out⟩
end Go.Proofs.YtackgnkajffhiaaDoor
