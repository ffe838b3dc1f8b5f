/-
  REGISTERS: Yank and Delete, where no great name is told.
-/
import Derived.Test.YtackgnkajffhiaaDoorRsY
import Derived.Test.YtackgnkajffhiaaDoorShelf2
import Derived.Lib.IndexAny
set_option linter.unusedVariables false
namespace Go.Proofs.YtackgnkajffhiaaDoor
open Go Go.RowKit

def Rs.yk (M : List RegS) (z : Int) (s : ByteArray) (b : Bool) : List RegS :=
  if (Rs.kp M z s b).2 then Rs.put (Rs.kp M z s b).1 ⟨48, s, b⟩ else (Rs.kp M z s b).1
def Rs.dl (M : List RegS) (z : Int) (s : ByteArray) (b : Bool) : List RegS :=
  if (Rs.kp M z s b).2 then (if b || s.data.toList.contains 10 then Rs.put (Rs.turn (Rs.kp M z s b).1) ⟨49, s, b⟩ else Rs.put (Rs.kp M z s b).1 ⟨45, s, b⟩) else (Rs.kp M z s b).1
theorem put_le (M : List RegS) (r : RegS) : (Rs.put M r).length ≤ M.length + 1 := by
  rw [put_len]
  have := Rs.wo_len M r.n
  omega
theorem turn_le (M : List RegS) : (Rs.turn M).length ≤ M.length := by
  unfold Rs.turn
  rw [List.length_map]
  exact Rs.wo_len M 57
theorem kp_le (M : List RegS) (z : Int) (s : ByteArray) (b : Bool) : (Rs.kp M z s b).1.length ≤ M.length + 2 := by
  unfold Rs.kp
  split
  · exact Nat.le_add_right _ _
  · split
    · have h1 := put_le M ⟨z, s, b⟩
      have h2 := put_le (Rs.put M ⟨z, s, b⟩) ⟨34, s, b⟩
      show (Rs.put (Rs.put M ⟨z, s, b⟩) ⟨34, s, b⟩).length ≤ _
      omega
    · have h1 := put_le M ⟨34, s, b⟩
      show (Rs.put M ⟨34, s, b⟩).length ≤ _
      omega
theorem contains_nl (s : ByteArray) (w : World) : Calls Tryd.prog 26 #[.string s, .string ⟨#[10]⟩] w fun e w' => e = .returned (.bool (s.data.toList.contains 10)) ∧ w' = w := by
  have c := Any.strings_Contains_one Tryd.lays144 s 10 w
  rw [← Lib.contains_iff_indexByte] at c
  exact c
set_option maxRecDepth 100000 in
set_option maxHeartbeats 4000000 in
theorem yank_ok (v : Value) (M : List RegS) (z : Int) (s : ByteArray) (b : Bool) (w : World) (h : Sl w v M) (hn : M.length ≤ 90000) (hM : Rs.ok M) (hz : Rs.Td z) (hg : ¬ Rs.Gt z) (hs : mayB s = true) (hT : Tabs w) :
    Calls Tryd.prog 13 #[v, .int .i64 z, .string s, .bool b] w fun e w' => (∃ v', e = .returned (.tuple #[v', .int .i64 0]) ∧ Sl w' v' (Rs.yk M z s b)) ∧ Kept (fun _ => False) w w' := by
  have cK := keep_ok v M z s b w h hn hM hz hg hs hT
  have hss : s.size ≤ 140737488351232 := by have := mayB_size hs; omega
  have HSS := Lib.hid hss
  have HLE := Lib.hid (kp_le M z s b)
  have HN := Lib.hid hn
  have HY : Hid (Rs.yk M z s b = if (Rs.kp M z s b).2 then Rs.put (Rs.kp M z s b).1 ⟨48, s, b⟩ else (Rs.kp M z s b).1) := rfl
  obtain ⟨Y, hY⟩ : ∃ Y, Rs.yk M z s b = Y := ⟨_, rfl⟩
  rw [hY] at HY ⊢
  generalize Rs.kp M z s b = E at *
  obtain ⟨X, B⟩ := E
  simp only at cK HLE HY
  clear h hn hM hz hg hs hT hss hY
  cases B
  · have HE : Hid (Y = X) := HY.out
    go_enter Tryd.func13, Tryd.ntmps13
    go_wp2_with (go_at_call 25; refine cK.mono ?_; rintro e w2 ⟨⟨v2, rfl, hs2⟩, hk2⟩; have HS2 := Lib.hid hs2; have HK2 := Lib.hid hk2; clear hs2 hk2)
    go_ret2
    exact ⟨⟨v2, rfl, by rw [HE.out]; exact HS2.out⟩, HK2.out⟩
  · have HE : Hid (Y = Rs.put X ⟨48, s, b⟩) := HY.out
    go_enter Tryd.func13, Tryd.ntmps13
    go_wp2_with (first
      | (go_at_call 25; refine cK.mono ?_; rintro e w2 ⟨⟨v2, rfl, hs2⟩, hk2⟩; have HS2 := Lib.hid hs2; have HK2 := Lib.hid hk2; clear hs2 hk2)
      | (go_at_call 27; refine (set_sl v2 X ⟨48, s, b⟩ _ HS2.out (by have := HN.out; have := HLE.out; omega) HSS.out).mono ?_; rintro e w3 ⟨⟨v3, rfl, hs3, hb3⟩, hk3⟩; have HS3 := Lib.hid hs3; have HK3 := Lib.hid (HK2.out.trans hk3); clear hs3 hb3 hk3))
    go_ret2
    exact ⟨⟨v3, rfl, by rw [HE.out]; exact HS3.out⟩, HK3.out⟩
set_option maxRecDepth 100000 in
set_option maxHeartbeats 4000000 in
theorem delete_ok (v : Value) (M : List RegS) (z : Int) (s : ByteArray) (b : Bool) (w : World) (h : Sl w v M) (hn : M.length ≤ 90000) (hM : Rs.ok M) (hz : Rs.Td z) (hg : ¬ Rs.Gt z) (hs : mayB s = true) (hT : Tabs w) :
    Calls Tryd.prog 12 #[v, .int .i64 z, .string s, .bool b] w fun e w' => (∃ v', e = .returned (.tuple #[v', .int .i64 0]) ∧ Sl w' v' (Rs.dl M z s b)) ∧ Kept (fun _ => False) w w' := by
  have cK := keep_ok v M z s b w h hn hM hz hg hs hT
  have cC := fun W => contains_nl s W
  have hss : s.size ≤ 140737488351232 := by have := mayB_size hs; omega
  have HSS := Lib.hid hss
  have HLE := Lib.hid (kp_le M z s b)
  have HN := Lib.hid hn
  have HY : Hid (Rs.dl M z s b = if (Rs.kp M z s b).2 then (if b || s.data.toList.contains 10 then Rs.put (Rs.turn (Rs.kp M z s b).1) ⟨49, s, b⟩ else Rs.put (Rs.kp M z s b).1 ⟨45, s, b⟩) else (Rs.kp M z s b).1) := rfl
  obtain ⟨Y, hY⟩ : ∃ Y, Rs.dl M z s b = Y := ⟨_, rfl⟩
  rw [hY] at HY ⊢
  generalize Rs.kp M z s b = E at *
  obtain ⟨X, B⟩ := E
  obtain ⟨C, hC⟩ : ∃ C, s.data.toList.contains 10 = C := ⟨_, rfl⟩
  rw [hC] at HY
  simp only [hC] at cC
  simp only at cK HLE HY
  clear h hn hM hz hg hs hT hss hY hC
  have HLT := Lib.hid (turn_le X)
  cases B
  · have HE : Hid (Y = X) := HY.out
    go_enter Tryd.func12, Tryd.ntmps12
    go_wp2_with (go_at_call 25; refine cK.mono ?_; rintro e w2 ⟨⟨v2, rfl, hs2⟩, hk2⟩; have HS2 := Lib.hid hs2; have HK2 := Lib.hid hk2; clear hs2 hk2)
    go_ret2
    exact ⟨⟨v2, rfl, by rw [HE.out]; exact HS2.out⟩, HK2.out⟩
  · cases b
    · cases C
      · have HE : Hid (Y = Rs.put X ⟨45, s, false⟩) := HY.out
        go_enter Tryd.func12, Tryd.ntmps12
        go_wp2_with (first
          | (go_at_call 25; refine cK.mono ?_; rintro e w2 ⟨⟨v2, rfl, hs2⟩, hk2⟩; have HS2 := Lib.hid hs2; have HK2 := Lib.hid hk2; clear hs2 hk2)
          | (go_at_call 26; refine (cC _).mono ?_; rintro e w' ⟨rfl, hw⟩; have hw2 := hw.symm; subst hw2)
          | (go_at_call 27; refine (set_sl v2 X ⟨45, s, false⟩ _ HS2.out (by have := HN.out; have := HLE.out; omega) HSS.out).mono ?_; rintro e w3 ⟨⟨v3, rfl, hs3, hb3⟩, hk3⟩; have HS3 := Lib.hid hs3; have HK3 := Lib.hid (HK2.out.trans hk3); clear hs3 hb3 hk3))
        go_ret2
        exact ⟨⟨v3, rfl, by rw [HE.out]; exact HS3.out⟩, HK3.out⟩
      · have HE : Hid (Y = Rs.put (Rs.turn X) ⟨49, s, false⟩) := HY.out
        go_enter Tryd.func12, Tryd.ntmps12
        go_wp2_with (first
          | (go_at_call 25; refine cK.mono ?_; rintro e w2 ⟨⟨v2, rfl, hs2⟩, hk2⟩; have HS2 := Lib.hid hs2; have HK2 := Lib.hid hk2; clear hs2 hk2)
          | (go_at_call 26; refine (cC _).mono ?_; rintro e w' ⟨rfl, hw⟩; have hw2 := hw.symm; subst hw2)
          | (go_at_call 28; refine (turn_sl v2 X _ HS2.out (by have := HN.out; have := HLE.out; omega)).mono ?_; rintro e w3 ⟨⟨v3, rfl, hs3⟩, hk3⟩; have HS3 := Lib.hid hs3; have HK3 := Lib.hid (HK2.out.trans hk3); clear hs3 hk3)
          | (go_at_call 27; refine (set_sl v3 (Rs.turn X) ⟨49, s, false⟩ _ HS3.out (by have := HN.out; have := HLE.out; have := HLT.out; omega) HSS.out).mono ?_; rintro e w4 ⟨⟨v4, rfl, hs4, hb4⟩, hk4⟩; have HS4 := Lib.hid hs4; have HK4 := Lib.hid (HK3.out.trans hk4); clear hs4 hb4 hk4))
        go_ret2
        exact ⟨⟨v4, rfl, by rw [HE.out]; exact HS4.out⟩, HK4.out⟩
    · have HE : Hid (Y = Rs.put (Rs.turn X) ⟨49, s, true⟩) := HY.out
      go_enter Tryd.func12, Tryd.ntmps12
      go_wp2_with (first
        | (go_at_call 25; refine cK.mono ?_; rintro e w2 ⟨⟨v2, rfl, hs2⟩, hk2⟩; have HS2 := Lib.hid hs2; have HK2 := Lib.hid hk2; clear hs2 hk2)
        | (go_at_call 28; refine (turn_sl v2 X _ HS2.out (by have := HN.out; have := HLE.out; omega)).mono ?_; rintro e w3 ⟨⟨v3, rfl, hs3⟩, hk3⟩; have HS3 := Lib.hid hs3; have HK3 := Lib.hid (HK2.out.trans hk3); clear hs3 hk3)
        | (go_at_call 27; refine (set_sl v3 (Rs.turn X) ⟨49, s, true⟩ _ HS3.out (by have := HN.out; have := HLE.out; have := HLT.out; omega) HSS.out).mono ?_; rintro e w4 ⟨⟨v4, rfl, hs4, hb4⟩, hk4⟩; have HS4 := Lib.hid hs4; have HK4 := Lib.hid (HK3.out.trans hk4); clear hs4 hb4 hk4))
      go_ret2
      exact ⟨⟨v4, rfl, by rw [HE.out]; exact HS4.out⟩, HK4.out⟩
end Go.Proofs.YtackgnkajffhiaaDoor
