/-
  CAUSAL ORDER: Old and Ready, the program's and the reference's, by Booleans.
-/
import Derived.Test.YtpgicfbaefcbmaaDoorCbG
set_option linter.unusedVariables false
namespace Go.Proofs.YtpgicfbaefcbmaaDoor
open Go Go.RowKit

theorem bool_of {a b : Bool} {p : Prop} (h1 : a = true ↔ p) (h2 : b = true ↔ p) : a = b := by
  cases a <;> cases b
  · rfl
  · exact absurd (h1.2 (h2.1 rfl)) (by simp)
  · exact absurd (h2.2 (h1.1 rfl)) (by simp)
  · rfl
theorem old_v (V : Option Addr) (n vc : Nat) (vs : List Int) (b : OpS) (w : World) (hv : Nums w V n vs) (hn : n ≤ 100000) (hvo : Cd.vecOk vs) (hb : OpOk w b) (ho : Cd.opOk b.o) (hT : Tabs w) :
    Calls Tryd.prog 21 #[.slice V n vc, opV b] w fun e w' => e = .returned (.tuple #[.bool (Cd.odB vs b.o), .int .i64 0]) ∧ Kept (fun _ => False) w w' := by
  refine (pold_any V n vc vs b w hv (by omega) hb hT).mono ?_
  rintro e w' ⟨⟨B, E, rfl, h⟩, hk⟩
  rcases h with ⟨_, rfl, hB⟩ | ⟨h, _⟩
  · exact ⟨by rw [bool_of hB Cd.odB_iff], hk⟩
  · exact absurd ⟨hvo, ho⟩ h
theorem ready_v (V : Option Addr) (n vc : Nat) (vs : List Int) (b : OpS) (w : World) (hv : Nums w V n vs) (hn : n ≤ 100000) (hvo : Cd.vecOk vs) (hb : OpOk w b) (ho : Cd.opOk b.o) (hT : Tabs w) :
    Calls Tryd.prog 22 #[.slice V n vc, opV b] w fun e w' => e = .returned (.tuple #[.bool (Cd.rdB vs b.o), .int .i64 0]) ∧ Kept (fun _ => False) w w' := by
  refine (pready_any V n vc vs b w hv (by omega) hb hT).mono ?_
  rintro e w' ⟨⟨B, E, rfl, h⟩, hk⟩
  rcases h with ⟨_, rfl, hB⟩ | ⟨h, _⟩
  · exact ⟨by rw [bool_of hB Cd.rdB_iff], hk⟩
  · exact absurd ⟨hvo, ho⟩ h
theorem old_bad (V : Option Addr) (n vc : Nat) (vs : List Int) (b : OpS) (w : World) (hv : Nums w V n vs) (hn : n ≤ 100000) (hb : OpOk w b) (hT : Tabs w) (hbad : ¬ (Cd.vecOk vs ∧ Cd.opOk b.o)) :
    Calls Tryd.prog 21 #[.slice V n vc, opV b] w fun e w' => e = .returned (.tuple #[.bool false, .int .i64 1]) ∧ Kept (fun _ => False) w w' := by
  refine (pold_any V n vc vs b w hv (by omega) hb hT).mono ?_
  rintro e w' ⟨⟨B, E, rfl, h⟩, hk⟩
  rcases h with ⟨h, _⟩ | ⟨_, rfl, rfl⟩
  · exact absurd h hbad
  · exact ⟨rfl, hk⟩
theorem ready_bad (V : Option Addr) (n vc : Nat) (vs : List Int) (b : OpS) (w : World) (hv : Nums w V n vs) (hn : n ≤ 100000) (hb : OpOk w b) (hT : Tabs w) (hbad : ¬ (Cd.vecOk vs ∧ Cd.opOk b.o)) :
    Calls Tryd.prog 22 #[.slice V n vc, opV b] w fun e w' => e = .returned (.tuple #[.bool false, .int .i64 1]) ∧ Kept (fun _ => False) w w' := by
  refine (pready_any V n vc vs b w hv (by omega) hb hT).mono ?_
  rintro e w' ⟨⟨B, E, rfl, h⟩, hk⟩
  rcases h with ⟨h, _⟩ | ⟨_, rfl, rfl⟩
  · exact absurd h hbad
  · exact ⟨rfl, hk⟩
theorem site_at {vs : List Int} {o : Cd.OpP} (hvo : Cd.vecOk vs) (ho : Cd.opOk o) : ∃ x, vs[(o.st - 1).toNat]? = some x := by
  have hlt : (o.st - 1).toNat < vs.length := by rw [hvo.1]; have := ho.2.1; omega
  exact ⟨_, List.getElem?_eq_getElem hlt⟩
theorem rold_v (V : Option Addr) (vc : Nat) (vs : List Int) (b : OpS) (w : World) (hv : Nums w V 4 vs) (hvo : Cd.vecOk vs) (ho : Cd.opOk b.o) :
    Calls Tryd.prog 24 #[.slice V 4 vc, opV b] w fun e w' => e = .returned (.bool (Cd.odB vs b.o)) ∧ Kept (fun _ => False) w w' := by
  obtain ⟨x, hx⟩ := site_at hvo ho
  have h := rold_any V vc vs b x w hv ho.2.1 hx
  rwa [show decide (b.o.nn ≤ x) = Cd.odB vs b.o by unfold Cd.odB; rw [hx]] at h
theorem rready_v (V : Option Addr) (vc : Nat) (vs : List Int) (b : OpS) (w : World) (hv : Nums w V 4 vs) (hvo : Cd.vecOk vs) (hb : OpOk w b) (ho : Cd.opOk b.o) :
    Calls Tryd.prog 25 #[.slice V 4 vc, opV b] w fun e w' => e = .returned (.bool (Cd.rdB vs b.o)) ∧ Kept (fun _ => False) w w' := by
  obtain ⟨x, hx⟩ := site_at hvo ho
  refine (rready_any V vc vs b x w hv (fun j y hj => vec_at hvo hj) hb (four_of ho hb) hvo.1 ho.2.1 hx).mono ?_
  rintro e w' ⟨⟨E, rfl, hE⟩, hk⟩
  exact ⟨by rw [bool_of hE (Cd.rdB_iff.trans (rd_of hx))], hk⟩
/-- The reference's test of all that is handed in. -/
theorem rops_v (A : Option Addr) (n c : Nat) (al : List OpS) (w : World) (hA : OpsM w A n al) (hn : n ≤ 7000) (E : Bool) (hE : E = true ↔ ∀ q ∈ al, Cd.opOk q.o) :
    Calls Tryd.prog 28 #[.slice A n c, .int .i64 8000] w fun e w' => e = .returned (.bool E) ∧ Kept (fun _ => False) w w' := by
  refine (rops_any A n c 8000 al w hA (by omega) (by omega)).mono ?_
  rintro e w' ⟨⟨F, rfl, hF⟩, hk⟩
  have e1 : F = E := bool_of hF (hE.trans ⟨fun h => ⟨by omega, fun j b hb => h b (List.mem_of_getElem? hb)⟩, fun h q hq => by
    obtain ⟨i, hi, rfl⟩ := List.getElem_of_mem hq
    exact h.2 i _ (List.getElem?_eq_getElem hi)⟩)
  exact ⟨by rw [e1], hk⟩
/-- What nothing was told of is written over. -/
theorem numbers_nil (w : World) : Calls Tryd.prog 33 #[.slice none 0 0] w fun e w' => e = .returned (.tuple #[]) ∧ Kept (fun _ => False) w w' := by
  obtain ⟨i0, hi, hz0, hz1, hz2⟩ := info_parts info_int
  have hka : Kept (fun _ => False) w (w.alloc (.cells #[.int .i64 5] 3)) := (Kept.refl _ _).alloc _
  go_enter Tryd.func33, Tryd.ntmps33
  go_wp2_with fail
  go_loopw [2] (fun i wr => i = .int .i64 ((0 : Nat) : Int) ∧ wr = w) (fun _ _ => 0)
  case atStart => exact ⟨rfl, rfl⟩
  case round =>
    obtain ⟨rfl, rfl⟩ := hrel
    go_wp2_with (at_builtin; refine wpList_append_grows _ rfl (.tmp 12) (.tmp 13) 30 rfl 3 i0 (.int .i64 0) 1 8 Tryd.underlying30 hi hz0 hz1 hz2 rfl (by decide) none 0 0 [] rfl (fun _ => ⟨rfl, rfl⟩) rfl (fun b hb => by cases hb) ⟨_, 0, none⟩ 1 1 [.int .i64 5] rfl rfl five_cell five_one (by omega) (by unfold maxLen; omega) (by omega) ?_; intro v9 w9 _ hg9; have HK9 := Lib.hid (hka.trans ((Kept.refl (fun _ => False) _).grown hg9)); clear hg9)
    go_end0
    exact ⟨rfl, HK9.out⟩
end Go.Proofs.YtpgicfbaefcbmaaDoor
