/-
  HISTORY: the way from a node to another.
-/
import Derived.Test.YthbfmdnibijapaaDoorHiB
set_option linter.unusedVariables false
namespace Go.Proofs.YthbfmdnibijapaaDoor
open Go Go.RowKit

/-- The way between two nodes: what is gone up, what is gone down (from its end). -/
inductive Way (G : Int → Option (Int × PatS × PatS)) : Int → Int → List PatS → List PatS → Prop
  | done (z : Int) : Way G z z [] []
  | up {f t q : Int} {d u : PatS} {U D : List PatS} (h : t < f) (hg : G f = some (q, d, u)) (hq : 0 ≤ q ∧ q < f) (hr : Way G q t U D) : Way G f t (u :: U) D
  | down {f t q : Int} {d u : PatS} {U D : List PatS} (h : f < t) (hg : G t = some (q, d, u)) (hq : 0 ≤ q ∧ q < t) (hr : Way G f q U D) : Way G f t U (d :: D)
set_option maxRecDepth 100000 in
theorem hrev_one (A : Option Addr) (n c : Nat) (w : World) (hn : n ≤ 1) :
    Calls Tryd.prog 55 #[.slice A n c] w fun e w' => e = .returned (.tuple #[]) ∧ Kept (fun _ => False) w w' := by
  have wn : IntKind.i64.wrap ((n : Int) - 1) = (n : Int) - 1 := IntWalk.i64_in _ ⟨by omega, by omega⟩
  have b1 : decide ((0 : Int) < (n : Int) - 1) = false := decide_eq_false (by omega)
  go_enter Tryd.func55, Tryd.ntmps55
  go_wp2_with fail
  go_loopw [2, 3] (fun v u wr => v = .int .i64 0 ∧ u = .int .i64 ((n : Int) - 1) ∧ wr = w) (fun _ _ _ => 0)
  case atStart => exact ⟨rfl, rfl, rfl⟩
  case round =>
    obtain ⟨rfl, rfl, rfl⟩ := hrel
    go_wp2_with fail
    go_end0
    exact ⟨rfl, Kept.refl _ _⟩
/-- What holds of a history's nodes and links on a way. -/
def Good (L : List NodeS) (kv : List (Int × Value)) (G : Int → Option (Int × PatS × PatS)) : Prop := ∀ z q d u, G z = some (q, d, u) → ∃ (i : Nat) (e : NodeS), idx L z = (i : Nat) ∧ L[i]? = some e ∧ e.pa = q ∧ kv.lookup z = some (lnkV d u) ∧ (Lit.int .i64 z).wf = true
/-- Two rows of one's own, apart. -/
structure Two (W : World) (B : Nat) (x y : Value) (U D : List PatS) : Prop where
  u : Op3 W B x U
  d : Op3 W B y D
  ne : ∀ g, x.ownBlock = some g → y.ownBlock ≠ some g
  b : B ≤ W.heap.size
theorem Two.kept {W W' : World} {B : Nat} {x y : Value} {U D : List PatS} (h : Two W B x y U D) (hk : Kept (fun _ => False) W W') : Two W' B x y U D := ⟨h.u.kept hk, h.d.kept hk, h.ne, Nat.le_trans h.b hk.size⟩
theorem Two.swap {W : World} {B : Nat} {x y : Value} {U D : List PatS} (h : Two W B x y U D) : Two W B y x D U := ⟨h.d, h.u, fun g h1 h2 => h.ne g h2 h1, h.b⟩
theorem Two.app {W W' : World} {B : Nat} {x y x' : Value} {U D U' : List PatS} (h : Two W B x y U D) (hx : Op3 W' B x' U') (hg : W.grownBy W' x.ownBlock) (ho : x'.ownBlock = x.ownBlock ∨ x'.ownBlock = some W.heap.size) : Two W' B x' y U' D := by
  have hk : Kept (fun k => x.ownBlock = some k) W W' := ⟨hg.os, hg.tape, hg.output, hg.size, fun k hk hn => hg.block k hk (fun e => hn e.symm)⟩
  refine ⟨hx, ?_, ?_, Nat.le_trans h.b hg.size⟩
  · refine ⟨h.d.1, ?_⟩
    rcases h.d.2 with hn | ⟨g, cap, cur, e, hb, hgg, rest⟩
    · exact .inl hn
    · exact .inr ⟨g, cap, cur, e, hb, (hk.block g (heap_lt hgg) (fun e' => h.ne g e' (by rw [e]; rfl))).trans hgg, rest⟩
  · intro g h1 h2
    rcases ho with e | e
    · exact h.ne g (e ▸ h1) h2
    · rw [e] at h1
      injection h1 with h1
      have := (h.d.lt g h2).2
      omega
theorem grew_kept {w W W' : World} {B : Nat} {x : Value} {U : List PatS} (hk : Kept (fun _ => False) w W) (hB : w.heap.size = B) (hx : Op3 W B x U) (hg : W.grownBy W' x.ownBlock) : Kept (fun _ => False) w W' := Kept.grew hk hg (fun q hq => by rw [hB]; exact (hx.lt q hq).1)
section
variable {most : Int} {ad : Addr} {n c : Nat} {L : List NodeS} {cur : Int} {mb hb : Nat} {s : ByteArray} {k : Int} {kv : List (Int × Value)}
set_option maxRecDepth 100000 in
set_option maxHeartbeats 8000000 in
theorem path_any (G : Int → Option (Int × PatS × PatS)) (f0 t0 : Int) (U0 D0 : List PatS) (w : World) (h : Hq most ad n c L cur mb hb s k kv w) (hn : n ≤ 64) (hG : Good L kv G) (hW : Way G f0 t0 U0 D0) (hU : U0.length ≤ 1000) (hD : D0.length ≤ 1) (hf : 0 ≤ f0) (ht : 0 ≤ t0) :
    Calls Tryd.prog 39 #[.pointer (some ⟨hb, 0, none⟩), .int .i64 f0, .int .i64 t0] w fun r w' => (∃ v, r = .returned v ∧ Op3 w' w.heap.size v (U0 ++ D0)) ∧ Kept (fun _ => False) w w' := by
  have HH := Lib.hid h
  have HG := Lib.hid hG
  have HWY := Lib.hid hW
  obtain ⟨B, hB⟩ : ∃ B, w.heap.size = B := ⟨_, rfl⟩
  rw [hB]
  have HB := Lib.hid hB
  clear h hG hW hB
  go_enter Tryd.func39, Tryd.ntmps39
  go_wp2_with fail
  go_loopw [1, 2, 7, 8] (fun a b x y wr => ∃ (f t : Int) (U1 D1 U D : List PatS), a = .int .i64 f ∧ b = .int .i64 t ∧ 0 ≤ f ∧ 0 ≤ t ∧ Two wr B x y U1 D1 ∧ Way G f t U D ∧ U1 ++ U = U0 ∧ D1 ++ D = D0 ∧ Kept (fun _ => False) w wr) (fun a b _ _ _ => (intOf a).toNat + (intOf b).toNat)
  case atStart => exact ⟨f0, t0, [], [], U0, D0, rfl, rfl, hf, ht, ⟨op3_nil _ _, op3_nil _ _, (fun g h => by cases h), by rw [HB.out]; exact Nat.le_refl _⟩, HWY.out, rfl, rfl, Kept.refl _ _⟩
  case round =>
    obtain ⟨f, t, U1, D1, U, D, rfl, rfl, hf', ht', h2, hw, hu, hd, hkept⟩ := hrel
    have HK := Lib.hid hkept
    have H2 := Lib.hid h2
    have HU := Lib.hid hu
    have HD := Lib.hid hd
    have hul : U1.length + U.length ≤ 1000 := by rw [← List.length_append, hu]; exact hU
    have hdl : D1.length + D.length ≤ 1 := by rw [← List.length_append, hd]; exact hD
    have HQ := Lib.hid (HH.out.kept hkept)
    obtain ⟨_, _, _, f3, _, _⟩ := hist_facts HQ.out.box
    clear hkept h2 hu hd
    cases hw with
    | done =>
      have b1 : (f != f) = false := by simp
      have b2 : (f == f) = true := by simp
      obtain ⟨AD, cD, hyD, hPD, hcD, hnD, hbD⟩ := H2.out.d.ps
      subst hyD
      have HPD := Lib.hid hPD
      have HND := Lib.hid hnD
      have hd1 : D1.length ≤ 1 := by omega
      have cR := fun W => hrev_one AD D1.length cD W hd1
      clear hPD hnD hbD
      go_wp2_with (first
        | (go_at_call 55; refine (cR _).mono ?_; rintro e w2 ⟨rfl, hk2⟩; have HK2 := Lib.hid (HK.out.trans hk2); have H22 := Lib.hid (H2.out.kept hk2); have HP2 := Lib.hid (HPD.out.kept hk2 (fun _ _ => id)); clear hk2)
        | (at_builtin; refine wpList_app_pats rfl (.tmp 43) (.tmp 44) rfl B _ U1 rfl H22.out.u _ _ _ D1 rfl HP2.out HND.out (by omega) H22.out.b ?_; intro v3 w3 hv3 hg3 ho3; have HO3 := Lib.hid hv3; have HK3 := Lib.hid (grew_kept HK2.out HB.out H22.out.u hg3); clear hv3 hg3 ho3))
      go_ret
      refine ⟨⟨_, rfl, ?_⟩, HK3.out⟩
      have h1 := HU.out
      have h2 := HD.out
      rw [List.append_nil] at h1 h2
      subst h1
      subst h2
      exact HO3.out
    | @up _ _ q d u U' _ hlt hg hq hr =>
      obtain ⟨i, e, hi, he, hpa, hlk, hwf⟩ := HG.out _ _ _ _ hg
      have b1 : (f != t) = true := by simp; omega
      have b2 : (f == t) = false := by rw [beq_eq_false_iff_ne]; omega
      have b3 : decide (t < f) = true := decide_eq_true hlt
      have hget := fun W (hM : MapI W mb kv) => MapI.get Tryd.underlying64 Tryd.underlying3 hM hwf hlk
      have hg0 := hget _ HQ.out.mp
      have hup := fun W => lnk_up d u W
      have cP := fun W (h : Hq most ad n c L cur mb hb s k kv W) => parent_any f i e W h hn hi he
      rw [hpa] at cP
      have HCP := Lib.hid cP
      have HR := Lib.hid hr
      have H2A := Lib.hid (H2.out.kept ((Kept.refl (fun _ => False) wr).alloc (.cells #[.int .i64 u.pat, .int .i64 u.del, .string u.ins] 79)))
      have HPB := Lib.hid (ps_built wr u)
      have HKA := Lib.hid (HK.out.alloc (.cells #[.int .i64 u.pat, .int .i64 u.del, .string u.ins] 79))
      have hul2 : U1.length + 1 ≤ 1000 := by simp at hul; omega
      obtain ⟨u0, u1, u2⟩ := u
      simp only at H2A HPB HKA
      clear hg hi he hpa hlk hget cP hr
      go_wp2_with (first
        | (at_builtin; refine wpList_app_pats rfl (.tmp 15) (.tmp 23) rfl B _ U1 rfl H2A.out.u _ 1 1 [⟨u0, u1, u2⟩] rfl HPB.out (fun h => by cases h) (by omega) H2A.out.b ?_; intro v3 w3 hv3 hg3 ho3; have H23 := Lib.hid (H2A.out.app hv3 hg3 ho3); have HK3 := Lib.hid (grew_kept HKA.out HB.out H2A.out.u hg3); have HQ3 := Lib.hid (HH.out.kept HK3.out); clear hv3 hg3 ho3)
        | (go_at_call 54; refine (HCP.out _ HQ3.out).mono ?_; rintro e w4 ⟨rfl, hk4⟩; have HK4 := Lib.hid (HK3.out.trans hk4); have H24 := Lib.hid (H23.out.kept hk4); clear hk4))
      go_roundw
      case rel => exact ⟨q, t, U1 ++ [⟨u0, u1, u2⟩], D1, U', D, rfl, rfl, hq.1, ht', H24.out, HR.out, by rw [List.append_assoc]; exact HU.out, HD.out, HK4.out⟩
      case measure => simp [intOf] <;> omega
    | @down _ _ q d u _ D' hlt hg hq hr =>
      obtain ⟨i, e, hi, he, hpa, hlk, hwf⟩ := HG.out _ _ _ _ hg
      have b1 : (f != t) = true := by simp; omega
      have b2 : (f == t) = false := by rw [beq_eq_false_iff_ne]; omega
      have b3 : decide (t < f) = false := decide_eq_false (by omega)
      have hget := fun W (hM : MapI W mb kv) => MapI.get Tryd.underlying64 Tryd.underlying3 hM hwf hlk
      have hg0 := hget _ HQ.out.mp
      have hup := fun W => lnk_down d u W
      have cP := fun W (h : Hq most ad n c L cur mb hb s k kv W) => parent_any t i e W h hn hi he
      rw [hpa] at cP
      have HCP := Lib.hid cP
      have HR := Lib.hid hr
      have H2A := Lib.hid (H2.out.kept ((Kept.refl (fun _ => False) wr).alloc (.cells #[.int .i64 d.pat, .int .i64 d.del, .string d.ins] 79))).swap
      have HPB := Lib.hid (ps_built wr d)
      have HKA := Lib.hid (HK.out.alloc (.cells #[.int .i64 d.pat, .int .i64 d.del, .string d.ins] 79))
      have hdl2 : D1.length + 1 ≤ 1000 := by simp at hdl; omega
      obtain ⟨u0, u1, u2⟩ := d
      simp only at H2A HPB HKA
      clear hg hi he hpa hlk hget cP hr
      go_wp2_with (first
        | (at_builtin; refine wpList_app_pats rfl (.tmp 28) (.tmp 36) rfl B _ D1 rfl H2A.out.u _ 1 1 [⟨u0, u1, u2⟩] rfl HPB.out (fun h => by cases h) (by omega) H2A.out.b ?_; intro v3 w3 hv3 hg3 ho3; have H23 := Lib.hid (H2A.out.app hv3 hg3 ho3).swap; have HK3 := Lib.hid (grew_kept HKA.out HB.out H2A.out.u hg3); have HQ3 := Lib.hid (HH.out.kept HK3.out); clear hv3 hg3 ho3)
        | (go_at_call 54; refine (HCP.out _ HQ3.out).mono ?_; rintro e w4 ⟨rfl, hk4⟩; have HK4 := Lib.hid (HK3.out.trans hk4); have H24 := Lib.hid (H23.out.kept hk4); clear hk4))
      go_roundw
      case rel => exact ⟨f, q, U1, D1 ++ [⟨u0, u1, u2⟩], U, D', rfl, rfl, hf', hq.1, H24.out, HR.out, HU.out, by rw [List.append_assoc]; exact HD.out, HK4.out⟩
      case measure => simp [intOf] <;> omega
end
end Go.Proofs.YthbfmdnibijapaaDoor
