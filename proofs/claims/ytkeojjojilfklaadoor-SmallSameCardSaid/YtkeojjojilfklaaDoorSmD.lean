/-
  COMMANDS OF SINGLE RUNES: r and ~, of the program and of the reference; by these keys both tell the same; that small wakes.
-/
import Derived.Test.YtkeojjojilfklaaDoorSmB
import Derived.Test.YtkeojjojilfklaaDoorTu
set_option linter.unusedVariables false
namespace Go.Proofs.YtkeojjojilfklaaDoor
open Go Go.RowKit

/-- The change to a text of runes, if it may be. -/
def MadeV (s : ByteArray) (u : List Int) (at' : Int) (v : Value) : Prop :=
  (mayB (runesBytes u) = true → v = chgT (Rw.bat (rs s) u : Nat) (Rw.bdel (rs s) u : Nat) (runesBytes (Rw.bins (rs s) u)) at' ⟨#[]⟩ 0) ∧
  (mayB (runesBytes u) = false → v = chgT 0 0 ⟨#[]⟩ 0 ⟨#[]⟩ 4)
theorem smade_any (s : ByteArray) (A : Option Addr) (n c : Nat) (u : List Int) (at' : Int) (w : World) (hT : Tabs w) (hm : mayB s = true) (hR : Rn w A n u) (hv : Vld u) (hn : n ≤ 100000) :
    Calls Tryd.prog 79 #[.string s, .slice A n c, .int .i64 at'] w fun e w' => (∃ (a d : Int) (p : ByteArray) (x : Int) (tk : ByteArray) (E : Int), e = .returned (chgT a d p x tk E) ∧ MadeV s u at' (chgT a d p x tk E)) ∧ Kept (fun _ => False) w w' := by
  by_cases h : mayB (runesBytes u) = true
  · exact (smade_yes s A n c u at' w hT hm hR hv h).mono fun e w' he => ⟨⟨_, _, _, _, _, _, he.1, ⟨fun _ => rfl, fun h' => by rw [h] at h'; cases h'⟩⟩, he.2⟩
  · have h' : mayB (runesBytes u) = false := by simpa using h
    exact (smade_no s A n c u at' w hT hm hR hn h').mono fun e w' he => ⟨⟨_, _, _, _, _, _, he.1, ⟨fun h'' => (by rw [h'] at h''; cases h''), fun _ => rfl⟩⟩, he.2⟩
theorem Tabs.two {w : World} (h : Tabs w) : 1 < w.heap.size := by
  have c1 : w.cell? ⟨1, 0, none⟩ = some (.int .u8 (Lib.accLo 0)) := (h.2 0 (by omega)).1
  exact World.block_lt_of_cell? w _ c1
theorem csd_step' {t : List Int} {lo i : Nat} {key x : Int} (h1 : lo ≤ i) (h2 : i < t.length) (hx : t[i]? = some x) : (Rw.csd t lo i key).set i (Rw.trn key x) = Rw.csd t lo (i + 1) key := by
  apply List.ext_getElem?
  intro j
  rw [Rw.csd_at (by omega) (by omega)]
  by_cases e : i = j
  · subst e
    rw [List.getElem?_set_self (by rw [Rw.csd_len h1 (by omega)]; exact h2), if_pos (by omega), hx]
    rfl
  · rw [List.getElem?_set_ne e, Rw.csd_at h1 (by omega)]
    by_cases h : lo ≤ j ∧ j < i
    · rw [if_pos h, if_pos (by omega)]
    · rw [if_neg h, if_neg (by omega)]
theorem csd_lo' {t : List Int} {lo : Nat} {key : Int} (h : lo ≤ t.length) : Rw.csd t lo lo key = t := by
  apply List.ext_getElem?
  intro j
  rw [Rw.csd_at (Nat.le_refl _) h, if_neg (by omega)]
theorem csd_get' {t : List Int} {lo i : Nat} {key : Int} (h1 : lo ≤ i) (h2 : i ≤ t.length) : (Rw.csd t lo i key)[i]? = t[i]? := by
  rw [Rw.csd_at h1 h2, if_neg (by omega)]
set_option maxRecDepth 100000 in
set_option maxHeartbeats 1000000 in
theorem srepl_any (s : ByteArray) (b cap lo hi : Nat) (r : Int) (w : World) (hT : Tabs w) (hm : mayB s = true) (hA : Rn w (some ⟨b, 0, none⟩) (rs s).length (rs s)) (h1 : lo < hi) (h2 : hi ≤ (rs s).length) (hr : Typ r) :
    Calls Tryd.prog 55 #[.string s, .slice (some ⟨b, 0, none⟩) (rs s).length cap, .int .i64 lo, .int .i64 hi, .int .i32 r] w fun e w' => (∃ (a d : Int) (p : ByteArray) (x : Int) (tk : ByteArray) (E : Int), e = .returned (chgT a d p x tk E) ∧ MadeV s (Rw.rep (rs s) lo hi r) ((hi : Int) - 1) (chgT a d p x tk E)) ∧ Kept (fun _ => False) w w' := by
  have hka : Kept (fun _ => False) w (w.alloc zeroS) := (Kept.refl _ w).alloc _
  have HG0 : Hid ((w.alloc zeroS).heap[w.heap.size]? = some zeroS) := heap_alloc_new w _
  have HT0 := Lib.hid (hT.kept hka id id)
  have hl4 : (rs s).length ≤ 4000 := by have := rs_len s; have := mayB_size hm; omega
  have cC := clone_any ⟨b, 0, none⟩ (rs s).length cap (rs s) (w.alloc zeroS) (hA.kept hka (fun _ _ => id)) (by omega)
  have hv := Rw.rep_vld (lo := lo) (hi := hi) (rs_vld hm) hr.valid
  have cM := fun A c W hW hR => smade_any s A (rs s).length c (Rw.rep (rs s) lo hi r) ((hi : Int) - 1) W hW hm hR hv (by omega)
  obtain ⟨P, hP⟩ : ∃ P : Value → Prop, MadeV s (Rw.rep (rs s) lo hi r) ((hi : Int) - 1) = P := ⟨_, rfl⟩
  rw [hP] at cM ⊢
  generalize rs s = t at *
  have HCM := Lib.hid cM
  have HKA := Lib.hid hka
  obtain ⟨g, hg⟩ : ∃ g, w.heap.size = g := ⟨_, rfl⟩
  have HGS := Lib.hid hg
  rw [hg] at HG0
  clear hg hka hT hm cM hv hP hA hr
  go_enter Tryd.func55, Tryd.ntmps55
  go_upto_region 1 with fail
  simp only [HGS.out]
  generalize w.alloc zeroS = wa at *
  go_upto_region 3 with (go_at_call 80; refine cC.mono ?_; rintro e w1 ⟨hk1, x, cp, rfl, hx, hcp, hO⟩; have HK1 := Lib.hid (HKA.out.trans hk1); have HG1 := Lib.hid ((hk1.block g (heap_lt HG0.out) id).trans HG0.out); have HT1 := Lib.hid (HT0.out.kept hk1 id id); have HO1 := Lib.hid hO; have HX : Hid (wa.heap.size ≤ x) := hx; clear hk1 hO hx cC)
  have HGX : Hid (g < x) := by have := HX.out; have := heap_lt HG0.out; show g < x; omega
  go_loopw [13] (fun v wr => ∃ i : Nat, lo ≤ i ∧ i ≤ hi ∧ v = .int .i64 i ∧ OwnR wr x t.length (Rw.rep t lo i r) ∧ Kept (fun q => q = x) w1 wr) (fun v _ => hi - (intOf v).toNat)
  case atStart => exact ⟨lo, Nat.le_refl _, by omega, rfl, by rw [Rw.rep_lo]; exact HO1.out, Kept.refl _ _⟩
  case round =>
    obtain ⟨i, hi1, hi2, rfl, hO, hkw⟩ := hrel
    have HO := Lib.hid hO
    have HKW := Lib.hid hkw
    clear hO hkw
    by_cases hlt : i < hi
    · obtain ⟨y, hy⟩ := Rw.rep_get (r := r) hi1 (show i < t.length by omega)
      have c0 := HO.out.cell hy
      have f9 := HO.out.free i
      have b4 : decide (i < hi) = true := by simp; omega
      clear hy
      go_wp2
      go_roundw
      case rel => exact ⟨i + 1, by omega, by omega, by go_num, by rw [← Rw.rep_step hi1 (by omega)]; exact HO.out.set (by omega) _, HKW.out.setCell (p := ⟨x, i, none⟩) rfl _⟩
      case measure => simp [intOf]; omega
    · obtain rfl : i = hi := by omega
      have hTr : Tabs wr := HT1.out.kept HKW.out (show ¬ 0 = x by have := HGX.out; omega) (show ¬ 1 = x by have := HT0.out.two; have := HX.out; omega)
      have HG2 := Lib.hid ((HKW.out.block g (heap_lt HG1.out) (show ¬ g = x by have := HGX.out; omega)).trans HG1.out)
      have HK2 : Hid (Kept (fun _ => False) w wr) := HK1.out.fresh HKW.out (fun q hq (e : q = x) => by have := HGS.out; have := HGX.out; omega)
      have cM := HCM.out (some ⟨x, 0, none⟩) cp wr hTr HO.out.rn
      have hw1 : IntKind.i64.wrap ((i : Int) - 1) = (i : Int) - 1 := IntWalk.i64_in _ ⟨by omega, by omega⟩
      clear hTr
      go_wp2_with (go_at_call 79; refine cM.mono ?_; rintro e w3 ⟨⟨a, d, p, x', tk, E, rfl, hp⟩, hk3⟩; have HP := Lib.hid hp; have HK3 := Lib.hid (HK2.out.trans hk3); have HG3 := Lib.hid ((hk3.block g (heap_lt HG2.out) id).trans HG2.out); obtain ⟨⟨e0, e1, e2, e3, e4, e5⟩, k0, k1, k2, k3, k4, k5⟩ := chg_facts HG3.out; clear hp hk3 cM; unfold chgT)
      refine bodyPost_ret (res_chg rfl _ _ g _ _ _ _ _ _ (0, 0) rfl (chg_six HG3.out _ _ _ _ _ _)) rfl ⟨⟨a, d, p, x', tk, E, rfl, HP.out⟩, ?_⟩
      exact HK3.out.fresh (Kept.six (Kept.refl (fun q => q = g) w3) rfl _ _ _ _ _ _) (fun b hb e => by have := HGS.out; omega)
set_option maxRecDepth 100000 in
theorem sturned_none (s : ByteArray) (A : Option Addr) (n c : Nat) (L : Int) (w : World) :
    Calls Tryd.prog 56 #[.string s, .slice A n c, .int .i64 L, .int .i64 L] w fun e w' => e = .returned (.tuple #[chgV 0 0 ⟨#[]⟩ 0 ⟨#[]⟩ false, .int .i64 6]) ∧ Kept (fun _ => False) w w' := by
  have hka : Kept (fun _ => False) w (w.alloc zeroS) := (Kept.refl _ w).alloc _
  have HG0 : Hid ((w.alloc zeroS).heap[w.heap.size]? = some zeroS) := heap_alloc_new w _
  have HKA := Lib.hid hka
  obtain ⟨g, hg⟩ : ∃ g, w.heap.size = g := ⟨_, rfl⟩
  have HGS := Lib.hid hg
  clear hka
  go_enter Tryd.func56, Tryd.ntmps56
  go_upto_region 1 with fail
  simp only [hg] at HG0 ⊢
  clear hg
  generalize w.alloc zeroS = wa at *
  obtain ⟨⟨d0, d1, d2, d3, d4, d5⟩, k0, k1, k2, k3, k4, k5⟩ := chg_facts HG0.out
  go_wp2
  refine bodyPost_ret (res_chg rfl _ _ g _ _ _ _ _ _ (0, 0) rfl (chg_six HG0.out _ _ _ _ _ _)) rfl ⟨rfl, ?_⟩
  exact HKA.out.fresh (Kept.six (Kept.refl (fun q => q = g) wa) rfl _ _ _ _ _ _) (fun b hb e => by have := HGS.out; omega)
set_option maxRecDepth 100000 in
set_option maxHeartbeats 1000000 in
theorem sturned_any (s : ByteArray) (b cap lo hi : Nat) (w : World) (hT : Tabs w) (hm : mayB s = true) (hA : Rn w (some ⟨b, 0, none⟩) (rs s).length (rs s)) (h1 : lo < hi) (h2 : hi ≤ (rs s).length) :
    Calls Tryd.prog 56 #[.string s, .slice (some ⟨b, 0, none⟩) (rs s).length cap, .int .i64 lo, .int .i64 hi] w fun e w' => (∃ (a d : Int) (p : ByteArray) (x : Int) (tk : ByteArray) (E : Int), e = .returned (chgT a d p x tk E) ∧ MadeV s (Rw.csd (rs s) lo hi 126) (Rw.rst (Rw.csd (rs s) lo hi 126) hi : Nat) (chgT a d p x tk E)) ∧ Kept (fun _ => False) w w' := by
  have hka : Kept (fun _ => False) w (w.alloc zeroS) := (Kept.refl _ w).alloc _
  have HG0 : Hid ((w.alloc zeroS).heap[w.heap.size]? = some zeroS) := heap_alloc_new w _
  have HT0 := Lib.hid (hT.kept hka id id)
  have hl4 : (rs s).length ≤ 4000 := by have := rs_len s; have := mayB_size hm; omega
  have hAk := hA.kept hka (fun _ _ => id)
  have HRB : Hid (Rn (w.alloc zeroS) (some ⟨b, 0, none⟩) (rs s).length (rs s)) := hAk
  have hblt : (rs s).length = 0 ∨ b < (w.alloc zeroS).heap.size := by
    by_cases h0 : (rs s).length = 0
    · exact .inl h0
    · obtain ⟨ad, x, e, hx, hc⟩ := hAk.cell (j := 0) (by omega)
      injection e with e
      subst e
      exact .inr (World.block_lt_of_cell? _ _ hc)
  have HBL : Hid (b < (w.alloc zeroS).heap.size) := hblt.elim (fun h => absurd h (by omega)) id
  have cC := clone_any ⟨b, 0, none⟩ (rs s).length cap (rs s) (w.alloc zeroS) hAk (by omega)
  have hv : Vld (Rw.csd (rs s) lo hi 126) := csd_vld (rs_vld hm)
  have hmx := may_csd (key := 126) (hi := hi) hm (show lo ≤ hi by omega)
  have hxl := Rw.csd_len (key := 126) (show lo ≤ hi by omega) h2
  have cM := fun A c W hW hR => smade_any s A (rs s).length c (Rw.csd (rs s) lo hi 126) (Rw.rst (Rw.csd (rs s) lo hi 126) hi : Nat) W hW hm hR hv (by omega)
  have cE := fun A c W hW hR => srest_yes A (rs s).length c (Rw.csd (rs s) lo hi 126) hi W hW hR hv hmx (by omega)
  obtain ⟨P, hP⟩ : ∃ P : Value → Prop, MadeV s (Rw.csd (rs s) lo hi 126) (Rw.rst (Rw.csd (rs s) lo hi 126) hi : Nat) = P := ⟨_, rfl⟩
  rw [hP] at cM ⊢
  have HRY : Hid (Runey (rs s)) := rs_runey (mayB_valid hm)
  generalize rs s = t at *
  generalize Rw.rst (Rw.csd t lo hi 126) hi = V at *
  have HCM := Lib.hid cM
  have HCE := Lib.hid cE
  have HKA := Lib.hid hka
  obtain ⟨g, hg⟩ : ∃ g, w.heap.size = g := ⟨_, rfl⟩
  have HGS := Lib.hid hg
  rw [hg] at HG0
  clear hg hka hT hm cM cE hv hP hA hAk hmx hxl hblt
  go_enter Tryd.func56, Tryd.ntmps56
  go_upto_region 1 with fail
  simp only [HGS.out]
  generalize w.alloc zeroS = wa at *
  have hne : ((lo : Int) == (hi : Int)) = false := by rw [beq_eq_false_iff_ne]; omega
  have hne' : ((lo : Nat) == (hi : Nat)) = false := by rw [beq_eq_false_iff_ne]; omega
  go_upto_region 5 with (go_at_call 80; refine cC.mono ?_; rintro e w1 ⟨hk1, x, cp, rfl, hx, hcp, hO⟩; have HK1 := Lib.hid (HKA.out.trans hk1); have HG1 := Lib.hid ((hk1.block g (heap_lt HG0.out) id).trans HG0.out); have HT1 := Lib.hid (HT0.out.kept hk1 id id); have HO1 := Lib.hid hO; have HX : Hid (wa.heap.size ≤ x) := hx; have HRB1 := Lib.hid (HRB.out.kept hk1 (fun _ _ => id)); clear hk1 hO hx cC)
  clear hne hne'
  have HGX : Hid (g < x) := by have := HX.out; have := heap_lt HG0.out; show g < x; omega
  go_loopw [11] (fun v wr => ∃ i : Nat, lo ≤ i ∧ i ≤ hi ∧ v = .int .i64 i ∧ OwnR wr x t.length (Rw.csd t lo i 126) ∧ Kept (fun q => q = x) w1 wr) (fun v _ => hi - (intOf v).toNat)
  case atStart => exact ⟨lo, Nat.le_refl _, by omega, rfl, by rw [csd_lo' (by omega)]; exact HO1.out, Kept.refl _ _⟩
  case round =>
    obtain ⟨i, hi1, hi2, rfl, hO, hkw⟩ := hrel
    have HO := Lib.hid hO
    have HKW := Lib.hid hkw
    clear hO hkw
    by_cases hlt : i < hi
    · obtain ⟨ad, z, e, hz, hc⟩ := (HRB1.out.kept HKW.out (fun a e => by injection e with e; rw [← e]; have := HBL.out; have := HX.out; show ¬ b = x; omega)).cell (j := i) (by omega)
      injection e with e
      subst e
      rw [addr_add, Nat.zero_add] at hc
      obtain ⟨z1, z2⟩ := HRY.out.at_ hz
      have cO := fun w => other_any z w ⟨z1, z2⟩
      have HV : Hid (oth z = Rw.trn 126 z) := oth_trn (.inl rfl)
      have c0 := HO.out.cell ((csd_get' hi1 (by omega)).trans hz)
      have f9 := HO.out.free i
      have b4 : decide (i < hi) = true := by simp; omega
      have HZ := Lib.hid hz
      clear hz
      go_wp2_with (go_at_call 73; refine (cO _).mono ?_; rintro e w' ⟨rfl, hw⟩; have hw2 := hw.symm; subst hw2)
      go_roundw
      case rel => exact ⟨i + 1, by omega, by omega, by go_num, by rw [← csd_step' hi1 (by omega) HZ.out, HV.out]; exact HO.out.set (by omega) _, HKW.out.setCell (p := ⟨x, i, none⟩) rfl _⟩
      case measure => simp [intOf]; omega
    · obtain rfl : i = hi := by omega
      have hTr : Tabs wr := HT1.out.kept HKW.out (show ¬ 0 = x by have := HGX.out; omega) (show ¬ 1 = x by have := HT0.out.two; have := HX.out; omega)
      have HG2 := Lib.hid ((HKW.out.block g (heap_lt HG1.out) (show ¬ g = x by have := HGX.out; omega)).trans HG1.out)
      have HK2 : Hid (Kept (fun _ => False) w wr) := HK1.out.fresh HKW.out (fun q hq (e : q = x) => by have := HGS.out; have := HGX.out; omega)
      have cE := HCE.out (some ⟨x, 0, none⟩) cp wr hTr HO.out.rn
      have HTr := Lib.hid hTr
      clear hTr
      go_wp2_with (first | (go_at_call 78; refine cE.mono ?_; rintro e w2 ⟨rfl, hk2⟩; have cM := HCM.out (some ⟨x, 0, none⟩) cp w2 (HTr.out.kept hk2 id id) (HO.out.rn.kept hk2 (fun _ _ => id)); have HKm := Lib.hid hk2; clear hk2) | (go_at_call 79; refine cM.mono ?_; rintro e w3 ⟨⟨a, d, p, x', tk, E, rfl, hp⟩, hk3⟩; have HP := Lib.hid hp; have HK3 := Lib.hid (HK2.out.trans (HKm.out.trans hk3)); have HG3 := Lib.hid (((HKm.out.trans hk3).block g (heap_lt HG2.out) id).trans HG2.out); obtain ⟨⟨e0, e1, e2, e3, e4, e5⟩, k0, k1, k2, k3, k4, k5⟩ := chg_facts HG3.out; clear hp hk3 cM; unfold chgT))
      refine bodyPost_ret (res_chg rfl _ _ g _ _ _ _ _ _ (0, 0) rfl (chg_six HG3.out _ _ _ _ _ _)) rfl ⟨⟨a, d, p, x', tk, E, rfl, HP.out⟩, ?_⟩
      exact HK3.out.fresh (Kept.six (Kept.refl (fun q => q = g) w3) rfl _ _ _ _ _ _) (fun b hb e => by have := HGS.out; omega)
/-- What r makes. -/
def TakeR (s : ByteArray) (k c : Nat) (r : Int) (v : Value) : Prop :=
  (Rw.en (rs s) k < k + c → v = chgT 0 0 ⟨#[]⟩ 0 ⟨#[]⟩ 6) ∧ (k + c ≤ Rw.en (rs s) k → MadeV s (Rw.rep (rs s) k (k + c) r) (((k + c : Nat) : Int) - 1) v)
/-- What ~ makes, up to H. -/
def TakeT (s : ByteArray) (k H : Nat) (v : Value) : Prop :=
  (k = H → v = chgT 0 0 ⟨#[]⟩ 0 ⟨#[]⟩ 6) ∧ (k < H → MadeV s (Rw.csd (rs s) k H 126) (Rw.rst (Rw.csd (rs s) k H 126) H : Nat) v)
theorem sturned_all (s : ByteArray) (b cap lo hi : Nat) (w : World) (hT : Tabs w) (hm : mayB s = true) (hA : Rn w (some ⟨b, 0, none⟩) (rs s).length (rs s)) (h1 : lo ≤ hi) (h2 : hi ≤ (rs s).length) :
    Calls Tryd.prog 56 #[.string s, .slice (some ⟨b, 0, none⟩) (rs s).length cap, .int .i64 lo, .int .i64 hi] w fun e w' => (∃ (a d : Int) (p : ByteArray) (x : Int) (tk : ByteArray) (E : Int), e = .returned (chgT a d p x tk E) ∧ TakeT s lo hi (chgT a d p x tk E)) ∧ Kept (fun _ => False) w w' := by
  by_cases h : lo = hi
  · subst h
    exact (sturned_none s _ _ cap lo w).mono fun e w' he => ⟨⟨_, _, _, _, _, _, he.1, ⟨fun _ => rfl, fun h => absurd h (by omega)⟩⟩, he.2⟩
  · exact (sturned_any s b cap lo hi w hT hm hA (by omega) h2).mono fun e w' ⟨⟨a, d, p, x, tk, E, he, hp⟩, hk⟩ => ⟨⟨a, d, p, x, tk, E, he, ⟨fun e => absurd e h, fun _ => hp⟩⟩, hk⟩
set_option maxRecDepth 100000 in
set_option maxHeartbeats 1000000 in
theorem sof_t (s : ByteArray) (r : Int) (k c : Nat) (w : World) (hT : Tabs w) (hm : mayB s = true) (hk : k ≤ (rs s).length) (hc1 : 1 ≤ c) (hc2 : c ≤ 999) :
    Calls Tryd.prog 28 (smArgs s k 126 r c) w fun e w' => (∃ v, e = .returned v ∧ TakeT s k (min (k + c) (Rw.en (rs s) k)) v) ∧ Kept (fun _ => False) w w' := by
  have hka : Kept (fun _ => False) w (w.alloc zeroS) := (Kept.refl _ w).alloc _
  have HG0 : Hid ((w.alloc zeroS).heap[w.heap.size]? = some zeroS) := heap_alloc_new w _
  have hTa := hT.kept hka id id
  have cR := runes_cap s k _ hTa hm hk
  have hl4 : (rs s).length ≤ 4000 := by have := rs_len s; have := mayB_size hm; omega
  have hge := Rw.en_ge (rs s) k
  have hel := Rw.en_le (rs s) k hk
  have cC := fun b cap W hT hA => sturned_all s b cap k (min (k + c) (Rw.en (rs s) k)) W hT hm hA (by omega) (by omega)
  have HTA := Lib.hid hTa
  have HKA := Lib.hid hka
  have HMN : Hid (min (k + c) (Rw.en (rs s) k) = min (k + c) (Rw.en (rs s) k)) := rfl
  obtain ⟨P, hP⟩ : ∃ P : Value → Prop, TakeT s k (min (k + c) (Rw.en (rs s) k)) = P := ⟨_, rfl⟩
  rw [hP] at cC ⊢
  generalize hH : min (k + c) (Rw.en (rs s) k) = H at *
  generalize rs s = t at *
  have HCC := Lib.hid cC
  obtain ⟨g, hg⟩ : ∃ g, w.heap.size = g := ⟨_, rfl⟩
  have HGS := Lib.hid hg
  rw [hg] at HG0
  have cRow := fun b cap W hW => row_any (some ⟨b, 0, none⟩) t.length cap t k W hW hk (by omega)
  generalize Rw.beg t k = B at *
  generalize Rw.en t k = En at *
  have hm1 : min ((k : Int) + (c : Int)) (En : Int) = (H : Int) := by omega
  have HH := Lib.hid hH
  clear hg hka hT hTa hm cC hP HMN hH
  go_enter Tryd.func28, Tryd.ntmps28
  go_upto_region 1 with fail
  simp only [HGS.out]
  generalize w.alloc zeroS = wa at *
  go_upto_region 2 with (go_at_call 41; refine cR.mono ?_; rintro e w1 ⟨hk1, b, cap, rfl, hb, hcap, hR⟩; have HK1 := Lib.hid (HKA.out.trans hk1); have HG1 := Lib.hid ((hk1.block g (heap_lt HG0.out) id).trans HG0.out); have HT1 := Lib.hid (HTA.out.kept hk1 id id); have HR1 := Lib.hid hR; clear hk1 hR)
  have d1 : decide (c < 1) = false := by simp; omega
  have d2 : decide (999 < c) = false := by simp; omega
  have d3 : decide ((c : Int) < 1) = false := by simp; omega
  have d4 : decide ((999 : Int) < (c : Int)) = false := by simp; omega
  have cO := cRow b cap w1 HR1.out
  clear cRow
  go_upto_region 6 with (go_at_call 53; refine cO.mono ?_; rintro e w' ⟨rfl, hw⟩; have hw2 := hw.symm; subst hw2)
  clear d1 d2 d3 d4 cO
  have hm2 : min (k + c) En = H := HH.out
  have hw1 : IntKind.i64.wrap ((k : Int) + (c : Int)) = (k : Int) + (c : Int) := IntWalk.i64_in _ ⟨by omega, by omega⟩
  have cC := HCC.out b cap w1 HT1.out HR1.out
  go_wp2_with (go_at_call 56; refine cC.mono ?_; rintro e w2 ⟨⟨a, d, p, x, tk, E, rfl, hp⟩, hk2⟩; have HP := Lib.hid hp; have HK2 := Lib.hid (HK1.out.trans hk2); have HG2 := Lib.hid ((hk2.block g (heap_lt HG1.out) id).trans HG1.out); obtain ⟨⟨e0, e1, e2, e3, e4, e5⟩, k0, k1, k2, k3, k4, k5⟩ := chg_facts HG2.out; clear hp hk2 cC; unfold chgT)
  refine bodyPost_ret (res_chg rfl _ _ g _ _ _ _ _ _ (0, 0) rfl (chg_six HG2.out _ _ _ _ _ _)) rfl ⟨⟨chgT a d p x tk E, rfl, HP.out⟩, ?_⟩
  exact HK2.out.fresh (Kept.six (Kept.refl (fun q => q = g) w2) rfl _ _ _ _ _ _) (fun b hb e => by have := HGS.out; omega)
set_option maxRecDepth 100000 in
set_option maxHeartbeats 1000000 in
theorem sof_r (s : ByteArray) (r : Int) (k c : Nat) (w : World) (hT : Tabs w) (hm : mayB s = true) (hk : k ≤ (rs s).length) (hc1 : 1 ≤ c) (hc2 : c ≤ 999) (hr : Typ r) :
    Calls Tryd.prog 28 (smArgs s k 114 r c) w fun e w' => (∃ v, e = .returned v ∧ TakeR s k c r v) ∧ Kept (fun _ => False) w w' := by
  have hka : Kept (fun _ => False) w (w.alloc zeroS) := (Kept.refl _ w).alloc _
  have HG0 : Hid ((w.alloc zeroS).heap[w.heap.size]? = some zeroS) := heap_alloc_new w _
  have hTa := hT.kept hka id id
  have cR := runes_cap s k _ hTa hm hk
  have hl4 : (rs s).length ≤ 4000 := by have := rs_len s; have := mayB_size hm; omega
  have hge := Rw.en_ge (rs s) k
  have hel := Rw.en_le (rs s) k hk
  have cC := fun b cap W hT hA (hle : k + c ≤ Rw.en (rs s) k) => srepl_any s b cap k (k + c) r W hT hm hA (by omega) (by omega) hr
  have cT := fun w => typed_any r true w ⟨fun _ => hr, fun _ => rfl⟩
  have HTA := Lib.hid hTa
  have HKA := Lib.hid hka
  have HPY : Hid (∀ v, k + c ≤ Rw.en (rs s) k → MadeV s (Rw.rep (rs s) k (k + c) r) (((k + c : Nat) : Int) - 1) v → TakeR s k c r v) := fun v h hv => ⟨fun h' => absurd h' (by omega), fun _ => hv⟩
  have HPN : Hid (Rw.en (rs s) k < k + c → TakeR s k c r (chgT 0 0 ⟨#[]⟩ 0 ⟨#[]⟩ 6)) := fun h => ⟨fun _ => rfl, fun h' => absurd h' (by omega)⟩
  generalize TakeR s k c r = P at *
  generalize MadeV s (Rw.rep (rs s) k (k + c) r) (((k + c : Nat) : Int) - 1) = Q at *
  generalize rs s = t at *
  have HCC := Lib.hid cC
  obtain ⟨g, hg⟩ : ∃ g, w.heap.size = g := ⟨_, rfl⟩
  have HGS := Lib.hid hg
  rw [hg] at HG0
  have cRow := fun b cap W hW => row_any (some ⟨b, 0, none⟩) t.length cap t k W hW hk (by omega)
  generalize Rw.beg t k = B at *
  generalize Rw.en t k = En at *
  have hr32 : IntKind.i32.wrap r = r := IntWalk.i32_in _ ⟨by have := hr.1; omega, by have := hr.2.1; omega⟩
  clear hg hka hT hTa hm cC hr
  go_enter Tryd.func28, Tryd.ntmps28
  go_upto_region 1 with fail
  simp only [HGS.out]
  generalize w.alloc zeroS = wa at *
  go_upto_region 2 with (go_at_call 41; refine cR.mono ?_; rintro e w1 ⟨hk1, b, cap, rfl, hb, hcap, hR⟩; have HK1 := Lib.hid (HKA.out.trans hk1); have HG1 := Lib.hid ((hk1.block g (heap_lt HG0.out) id).trans HG0.out); have HT1 := Lib.hid (HTA.out.kept hk1 id id); have HR1 := Lib.hid hR; clear hk1 hR)
  have d1 : decide (c < 1) = false := by simp; omega
  have d2 : decide (999 < c) = false := by simp; omega
  have d3 : decide ((c : Int) < 1) = false := by simp; omega
  have d4 : decide ((999 : Int) < (c : Int)) = false := by simp; omega
  have cO := cRow b cap w1 HR1.out
  clear cRow
  go_upto_region 6 with (first | (go_at_call 53; refine cO.mono ?_; rintro e w' ⟨rfl, hw⟩; have hw2 := hw.symm; subst hw2) | (go_at_call 52; refine (cT _).mono ?_; rintro e w' ⟨rfl, hw⟩; have hw2 := hw.symm; subst hw2))
  clear d1 d2 d3 d4 cO cT
  have hw1 : IntKind.i64.wrap ((k : Int) + (c : Int)) = ((k + c : Nat) : Int) := by rw [IntWalk.i64_in _ ⟨by omega, by omega⟩]; omega
  have hw2 : IntKind.i64.wrap ((En : Int) - (k : Int)) = (En : Int) - (k : Int) := IntWalk.i64_in _ ⟨by omega, by omega⟩
  by_cases hle : k + c ≤ En
  · have b1 : decide ((En : Int) - (k : Int) < (c : Int)) = false := by simp; omega
    have cC := HCC.out b cap w1 HT1.out HR1.out hle
    go_wp2_with (go_at_call 55; refine cC.mono ?_; rintro e w2 ⟨⟨a, d, p, x, tk, E, rfl, hp⟩, hk2⟩; have HP := Lib.hid hp; have HK2 := Lib.hid (HK1.out.trans hk2); have HG2 := Lib.hid ((hk2.block g (heap_lt HG1.out) id).trans HG1.out); obtain ⟨⟨e0, e1, e2, e3, e4, e5⟩, k0, k1, k2, k3, k4, k5⟩ := chg_facts HG2.out; clear hp hk2 cC; unfold chgT)
    refine bodyPost_ret (res_chg rfl _ _ g _ _ _ _ _ _ (0, 0) rfl (chg_six HG2.out _ _ _ _ _ _)) rfl ⟨⟨chgT a d p x tk E, rfl, HPY.out _ (by first | exact hle | trivial) HP.out⟩, ?_⟩
    exact HK2.out.fresh (Kept.six (Kept.refl (fun q => q = g) w2) rfl _ _ _ _ _ _) (fun b hb e => by have := HGS.out; omega)
  · have b1 : decide ((En : Int) - (k : Int) < (c : Int)) = true := by simp; omega
    have hlt : En < k + c := by omega
    have HLT := Lib.hid hlt
    clear hle hlt
    obtain ⟨⟨e0, e1, e2, e3, e4, e5⟩, k0, k1, k2, k3, k4, k5⟩ := chg_facts HG1.out
    go_wp2
    refine bodyPost_ret (res_chg rfl _ _ g _ _ _ _ _ _ (0, 0) rfl (chg_six HG1.out _ _ _ _ _ _)) rfl ⟨⟨chgT 0 0 ⟨#[]⟩ 0 ⟨#[]⟩ 6, rfl, HPN.out HLT.out⟩, ?_⟩
    exact HK1.out.fresh (Kept.six (Kept.refl (fun q => q = g) w1) rfl _ _ _ _ _ _) (fun b hb e => by have := HGS.out; omega)
set_option maxRecDepth 100000 in
theorem rmade_no (s x : ByteArray) (at' : Int) (w : World) (hx : x.size ≤ 140737488351232) (hT : Tabs w) (hm : mayB x = false) :
    Calls Tryd.prog 62 #[.string s, .string x, .int .i64 at'] w fun e w' => e = .returned (.tuple #[chgV 0 0 ⟨#[]⟩ 0 ⟨#[]⟩ false, .int .i64 4]) ∧ Kept (fun _ => False) w w' := by
  have hka : Kept (fun _ => False) w (w.alloc zeroS) := (Kept.refl _ w).alloc _
  have HG0 : Hid ((w.alloc zeroS).heap[w.heap.size]? = some zeroS) := heap_alloc_new w _
  have cM := rmay_any x _ hx (hT.kept hka id id)
  rw [hm] at cM
  have HKA := Lib.hid hka
  clear hka hT hm
  obtain ⟨g, hg⟩ : ∃ g, w.heap.size = g := ⟨_, rfl⟩
  have HGS := Lib.hid hg
  go_enter Tryd.func62, Tryd.ntmps62
  go_upto_region 1 with fail
  simp only [hg] at HG0 ⊢
  clear hg
  go_wp2_with (go_at_call 17; refine cM.mono ?_; rintro e w1 ⟨rfl, hk1⟩; have HK1 := Lib.hid (HKA.out.trans hk1); have HG1 := Lib.hid ((hk1.block _ (heap_lt HG0.out) id).trans HG0.out); obtain ⟨⟨c0, c1, c2, c3, c4, c5⟩, k0, k1, k2, k3, k4, k5⟩ := chg_facts HG1.out; clear hk1 cM)
  refine bodyPost_ret (res_chg rfl _ _ g _ _ _ _ _ _ (0, 0) rfl (chg_six HG1.out _ _ _ _ _ _)) rfl ⟨rfl, ?_⟩
  exact HK1.out.fresh (Kept.six (Kept.refl (fun q => q = g) w1) rfl _ _ _ _ _ _) (fun b hb e => by have := HGS.out; omega)
theorem rmade_any (s : ByteArray) (u : List Int) (at' : Nat) (w : World) (hs : s.size ≤ 4000) (hT : Tabs w) (hv : Vld u) (hn : u.length ≤ 100000) :
    Calls Tryd.prog 62 #[.string s, .string (runesBytes u), .int .i64 at'] w fun e w' => (∃ (a d : Int) (p : ByteArray) (x : Int) (tk : ByteArray) (E : Int), e = .returned (chgT a d p x tk E) ∧ MadeV s u at' (chgT a d p x tk E)) ∧ Kept (fun _ => False) w w' := by
  by_cases h : mayB (runesBytes u) = true
  · have := rmade_yes s (runesBytes u) at' w hs hT h
    rw [rs_txt hv] at this
    exact this.mono fun e w' he => ⟨⟨_, _, _, _, _, _, he.1, ⟨fun _ => rfl, fun h' => by rw [h] at h'; cases h'⟩⟩, he.2⟩
  · have h' : mayB (runesBytes u) = false := by simpa using h
    exact (rmade_no s (runesBytes u) at' w (by have := txt_size4 u; omega) hT h').mono fun e w' he => ⟨⟨_, _, _, _, _, _, he.1, ⟨fun h'' => (by rw [h'] at h''; cases h''), fun _ => rfl⟩⟩, he.2⟩
set_option maxRecDepth 100000 in
set_option maxHeartbeats 2000000 in
theorem rsmall_r (s : ByteArray) (r : Int) (k c : Nat) (w : World) (hT : Tabs w) (hm : mayB s = true) (hk : k ≤ (rs s).length) (hc1 : 1 ≤ c) (hc2 : c ≤ 999) (hr : Typ r) :
    Calls Tryd.prog 51 (smArgs s k 114 r c) w fun e w' => (∃ v, e = .returned v ∧ TakeR s k c r v) ∧ Kept (fun _ => False) w w' := by
  have HG0 : Hid ((w.alloc zeroS).heap[w.heap.size]? = some zeroS) := heap_alloc_new w _
  have HKA : Hid (Kept (fun _ => False) w (w.alloc zeroS)) := (Kept.refl _ w).alloc _
  have HTA : Hid (Tabs (w.alloc zeroS)) := hT.kept HKA.out id id
  have hsm := mayB_size hm
  have hl4 : (rs s).length ≤ 4000 := by have := rs_len s; omega
  have hge := Rw.en_ge (rs s) k
  have hel := Rw.en_le (rs s) k hk
  have cV := fun W => conv_own s W (by omega)
  have hv := Rw.rep_vld (lo := k) (hi := k + c) (rs_vld hm) hr.valid
  have cM := fun W hW (hle : k + c ≤ Rw.en (rs s) k) => rmade_any s (Rw.rep (rs s) k (k + c) r) (k + c - 1) W hsm hW hv (by rw [Rw.rep_len (by omega) (by omega)]; omega)
  rw [show ((k + c - 1 : Nat) : Int) = ((k + c : Nat) : Int) - 1 by omega] at cM
  have HPY : Hid (∀ v, k + c ≤ Rw.en (rs s) k → MadeV s (Rw.rep (rs s) k (k + c) r) (((k + c : Nat) : Int) - 1) v → TakeR s k c r v) := fun v h hv => ⟨fun h' => absurd h' (by omega), fun _ => hv⟩
  have HPN : Hid (Rw.en (rs s) k < k + c → TakeR s k c r (chgT 0 0 ⟨#[]⟩ 0 ⟨#[]⟩ 6)) := fun h => ⟨fun _ => rfl, fun h' => absurd h' (by omega)⟩
  generalize TakeR s k c r = P at *
  generalize MadeV s (Rw.rep (rs s) k (k + c) r) (((k + c : Nat) : Int) - 1) = Q at *
  clear hT hm hsm hv
  have cBe := fun b cap W hW => rbegin_any (some ⟨b, 0, none⟩) (rs s).length cap (rs s) k W hW hk (by omega)
  have cEn := fun b cap W hW => rend_any (some ⟨b, 0, none⟩) (rs s).length cap (rs s) k W hW hk (by omega)
  generalize Rw.beg (rs s) k = B at *
  generalize Rw.en (rs s) k = En at *
  generalize rs s = t at *
  have HCM := Lib.hid cM
  clear cM
  obtain ⟨g, hg⟩ : ∃ g, w.heap.size = g := ⟨_, rfl⟩
  have HGS := Lib.hid hg
  rw [hg] at HG0
  clear hg
  obtain ⟨M, hM⟩ : ∃ M : Nat, M = min (k + c) En := ⟨_, rfl⟩
  have hm1 : min (En : Int) ((k : Int) + (c : Int)) = (M : Int) := by omega
  have hm2 : min En (k + c) = M := by omega
  have HM := Lib.hid hM
  have hMn : M ≤ t.length := by omega
  have hkM : k ≤ M := by omega
  clear hM
  have hw1 : IntKind.i64.wrap ((k : Int) + (c : Int)) = (k : Int) + (c : Int) := IntWalk.i64_in _ ⟨by omega, by omega⟩
  have hw2 : IntKind.i64.wrap ((M : Int) - (k : Int)) = (M : Int) - (k : Int) := IntWalk.i64_in _ ⟨by omega, by omega⟩
  have hr32 : IntKind.i32.wrap r = r := IntWalk.i32_in _ ⟨by have := hr.1; omega, by have := hr.2.1; omega⟩
  clear hr
  go_enter Tryd.func51, Tryd.ntmps51
  go_upto_region 1 with fail
  simp only [HGS.out]
  generalize w.alloc zeroS = W0 at *
  obtain ⟨cap, w1, hcap, hcv, hk1, hlt1, hO1⟩ := cV W0
  have hI1 : RsI W0.heap.size g t w1 := ⟨HTA.out.kept hk1 id id, hO1.rn, (hk1.block _ (heap_lt HG0.out) id).trans HG0.out⟩
  obtain ⟨b, hb⟩ : ∃ b, W0.heap.size = b := ⟨_, rfl⟩
  rw [hb] at hcv hI1 hO1
  have HI1 := Lib.hid hI1
  have HO1 := Lib.hid hO1
  have HK1 := Lib.hid (HKA.out.trans hk1)
  have HGB : Hid (g < b) := by have := heap_lt HG0.out; show g < b; omega
  have HB1 : Hid (1 < b) := by have := HTA.out.two; show 1 < b; omega
  have cB1 := cBe b cap w1 hI1.rn
  have cE1 := cEn b cap w1 hI1.rn
  clear hO1 hI1 hk1 cV cBe cEn hb
  go_upto_region 4 with (first
    | (go_at_call 40; refine cB1.mono ?_; rintro e w2 ⟨rfl, hw⟩; have hw3 := hw.symm; subst hw3)
    | (go_at_call 25; refine cE1.mono ?_; rintro e w2 ⟨rfl, hw⟩; have hw3 := hw.symm; subst hw3))
  clear hcv cB1 cE1 hm1 hm2 hw1
  by_cases hle : k + c ≤ En
  · have hMc : M = k + c := by have := HM.out; omega
    have b1 : decide ((M : Int) - (k : Int) < (c : Int)) = false := by simp; omega
    have HLE := Lib.hid hle
    have HMC := Lib.hid hMc
    clear hMc hle
    go_upto_region 24 with fail
    clear b1 hw2
    go_loopw [22] (fun v wr => ∃ i : Nat, k ≤ i ∧ i ≤ M ∧ v = .int .i64 i ∧ OwnR wr b t.length (Rw.rep t k i r) ∧ Kept (fun q => q = b) w1 wr) (fun v _ => M - (intOf v).toNat)
    case atStart => exact ⟨k, Nat.le_refl _, hkM, rfl, by rw [Rw.rep_lo]; exact HO1.out, Kept.refl _ _⟩
    case round =>
      obtain ⟨i, hi1, hi2, rfl, hO, hkw⟩ := hrel
      have HO := Lib.hid hO
      have HKW := Lib.hid hkw
      clear hO hkw
      by_cases hlt : i < M
      · obtain ⟨y, hy⟩ := Rw.rep_get (r := r) hi1 (show i < t.length by omega)
        have c0 := HO.out.cell hy
        have f9 := HO.out.free i
        have b4 : decide (i < M) = true := by simp; omega
        clear hy
        go_wp2
        go_roundw
        case rel => exact ⟨i + 1, by omega, by omega, by go_num, by rw [← Rw.rep_step hi1 (by omega)]; exact HO.out.set (by omega) _, HKW.out.setCell (p := ⟨b, i, none⟩) rfl _⟩
        case measure => simp [intOf]; omega
      · obtain rfl : i = M := by omega
        have hcv := run_txt (c := cap) HO.out.rn
        rw [HMC.out] at hcv
        have hTr : Tabs wr := HI1.out.tabs.kept HKW.out (show ¬ 0 = b by have := HB1.out; omega) (show ¬ 1 = b by have := HB1.out; omega)
        have HG2 := Lib.hid ((HKW.out.block g (heap_lt HI1.out.chg) (show ¬ g = b by have := HGB.out; omega)).trans HI1.out.chg)
        have HK2 : Hid (Kept (fun _ => False) w wr) := HK1.out.fresh HKW.out (fun q hq (e : q = b) => by have := HGS.out; have := HGB.out; omega)
        have cM := HCM.out wr hTr HLE.out
        have hw1 : IntKind.i64.wrap ((i : Int) - 1) = ((k + c : Nat) : Int) - 1 := by rw [IntWalk.i64_in _ ⟨by omega, by omega⟩]; have := HMC.out; omega
        generalize runesBytes (Rw.rep t k (k + c) r) = NX at *
        clear hTr
        go_wp2_with (go_at_call 62; refine cM.mono ?_; rintro e w3 ⟨⟨a, d, p, x', tk, E, rfl, hp⟩, hk3⟩; have HP := Lib.hid hp; have HK3 := Lib.hid (HK2.out.trans hk3); have HG3 := Lib.hid ((hk3.block g (heap_lt HG2.out) id).trans HG2.out); obtain ⟨⟨e0, e1, e2, e3, e4, e5⟩, k0, k1, k2, k3, k4, k5⟩ := chg_facts HG3.out; clear hp hk3 cM; unfold chgT)
        refine bodyPost_ret (res_chg rfl _ _ g _ _ _ _ _ _ (0, 0) rfl (chg_six HG3.out _ _ _ _ _ _)) rfl ⟨⟨chgT a d p x' tk E, rfl, HPY.out _ HLE.out HP.out⟩, ?_⟩
        exact HK3.out.fresh (Kept.six (Kept.refl (fun q => q = g) w3) rfl _ _ _ _ _ _) (fun b hb e => by have := HGS.out; omega)
  · have hMc : M = En := by have := HM.out; omega
    have b1 : decide ((M : Int) - (k : Int) < (c : Int)) = true := by simp; omega
    have HLT : Hid (En < k + c) := by show _ < _; omega
    obtain ⟨⟨e0, e1, e2, e3, e4, e5⟩, k0, k1, k2, k3, k4, k5⟩ := chg_facts HI1.out.chg
    clear hMc hle
    go_wp2
    refine bodyPost_ret (res_chg rfl _ _ g _ _ _ _ _ _ (0, 0) rfl (chg_six HI1.out.chg _ _ _ _ _ _)) rfl ⟨⟨chgT 0 0 ⟨#[]⟩ 0 ⟨#[]⟩ 6, rfl, HPN.out HLT.out⟩, ?_⟩
    exact HK1.out.fresh (Kept.six (Kept.refl (fun q => q = g) w1) rfl _ _ _ _ _ _) (fun b hb e => by have := HGS.out; omega)
set_option maxRecDepth 100000 in
set_option maxHeartbeats 2000000 in
theorem rsmall_t (s : ByteArray) (r : Int) (k c : Nat) (w : World) (hT : Tabs w) (hm : mayB s = true) (hk : k ≤ (rs s).length) (hc1 : 1 ≤ c) (hc2 : c ≤ 999) :
    Calls Tryd.prog 51 (smArgs s k 126 r c) w fun e w' => (∃ v, e = .returned v ∧ TakeT s k (min (k + c) (Rw.en (rs s) k)) v) ∧ Kept (fun _ => False) w w' := by
  have HG0 : Hid ((w.alloc zeroS).heap[w.heap.size]? = some zeroS) := heap_alloc_new w _
  have HKA : Hid (Kept (fun _ => False) w (w.alloc zeroS)) := (Kept.refl _ w).alloc _
  have HTA : Hid (Tabs (w.alloc zeroS)) := hT.kept HKA.out id id
  have hsm := mayB_size hm
  have hl4 : (rs s).length ≤ 4000 := by have := rs_len s; omega
  have hge := Rw.en_ge (rs s) k
  have hel := Rw.en_le (rs s) k hk
  have cV := fun W => conv_own s W (by omega)
  obtain ⟨M, hM⟩ : ∃ M : Nat, M = min (k + c) (Rw.en (rs s) k) := ⟨_, rfl⟩
  rw [← hM]
  have hMn : M ≤ (rs s).length := by omega
  have hkM : k ≤ M := by omega
  have hv : Vld (Rw.csd (rs s) k M 126) := csd_vld (rs_vld hm)
  have hxl := Rw.csd_len (key := 126) hkM hMn
  have cM := fun W hW => rmade_any s (Rw.csd (rs s) k M 126) (Rw.rst (Rw.csd (rs s) k M 126) M) W hsm hW hv (by omega)
  have cR := fun b cap W hW => rrest_any (some ⟨b, 0, none⟩) (rs s).length cap (Rw.csd (rs s) k M 126) M W hW hMn (by omega)
  have HRY : Hid (Runey (rs s)) := rs_runey (mayB_valid hm)
  have HPY : Hid (∀ v, k < M → MadeV s (Rw.csd (rs s) k M 126) (Rw.rst (Rw.csd (rs s) k M 126) M : Nat) v → TakeT s k M v) := fun v h hv => ⟨fun h' => absurd h' (by omega), fun _ => hv⟩
  have HPN : Hid (k = M → TakeT s k M (chgT 0 0 ⟨#[]⟩ 0 ⟨#[]⟩ 6)) := fun h => ⟨fun _ => rfl, fun h' => absurd h' (by omega)⟩
  generalize TakeT s k M = P at *
  generalize MadeV s (Rw.csd (rs s) k M 126) (Rw.rst (Rw.csd (rs s) k M 126) M : Nat) = Q at *
  clear hT hm hsm hv hxl
  have cBe := fun b cap W hW => rbegin_any (some ⟨b, 0, none⟩) (rs s).length cap (rs s) k W hW hk (by omega)
  have cEn := fun b cap W hW => rend_any (some ⟨b, 0, none⟩) (rs s).length cap (rs s) k W hW hk (by omega)
  generalize Rw.beg (rs s) k = B at *
  generalize Rw.en (rs s) k = En at *
  generalize rs s = t at *
  generalize hNX : runesBytes (Rw.csd t k M 126) = NX at *
  generalize Rw.rst (Rw.csd t k M 126) M = V at *
  have HNX := Lib.hid hNX
  have HCM := Lib.hid cM
  have HCR := Lib.hid cR
  clear cM cR hNX
  obtain ⟨g, hg⟩ : ∃ g, w.heap.size = g := ⟨_, rfl⟩
  have HGS := Lib.hid hg
  rw [hg] at HG0
  clear hg
  have hm1 : min (En : Int) ((k : Int) + (c : Int)) = (M : Int) := by omega
  have hm2 : min En (k + c) = M := by omega
  have HM := Lib.hid hM
  clear hM
  have hw1 : IntKind.i64.wrap ((k : Int) + (c : Int)) = (k : Int) + (c : Int) := IntWalk.i64_in _ ⟨by omega, by omega⟩
  go_enter Tryd.func51, Tryd.ntmps51
  go_upto_region 1 with fail
  simp only [HGS.out]
  generalize w.alloc zeroS = W0 at *
  obtain ⟨cap, w1, hcap, hcv, hk1, hlt1, hO1⟩ := cV W0
  have hI1 : RsI W0.heap.size g t w1 := ⟨HTA.out.kept hk1 id id, hO1.rn, (hk1.block _ (heap_lt HG0.out) id).trans HG0.out⟩
  obtain ⟨b, hb⟩ : ∃ b, W0.heap.size = b := ⟨_, rfl⟩
  rw [hb] at hcv hI1 hO1
  have HI1 := Lib.hid hI1
  have HO1 := Lib.hid hO1
  have HK1 := Lib.hid (HKA.out.trans hk1)
  have HGB : Hid (g < b) := by have := heap_lt HG0.out; show g < b; omega
  have HB1 : Hid (1 < b) := by have := HTA.out.two; show 1 < b; omega
  have cB1 := cBe b cap w1 hI1.rn
  have cE1 := cEn b cap w1 hI1.rn
  clear hO1 hI1 hk1 cV cBe cEn hb
  go_upto_region 4 with (first
    | (go_at_call 40; refine cB1.mono ?_; rintro e w2 ⟨rfl, hw⟩; have hw3 := hw.symm; subst hw3)
    | (go_at_call 25; refine cE1.mono ?_; rintro e w2 ⟨rfl, hw⟩; have hw3 := hw.symm; subst hw3))
  clear hcv cB1 cE1 hm1 hm2 hw1
  by_cases heq : k = M
  · subst heq
    obtain ⟨⟨e0, e1, e2, e3, e4, e5⟩, k0, k1, k2, k3, k4, k5⟩ := chg_facts HI1.out.chg
    go_wp2
    refine bodyPost_ret (res_chg rfl _ _ g _ _ _ _ _ _ (0, 0) rfl (chg_six HI1.out.chg _ _ _ _ _ _)) rfl ⟨⟨chgT 0 0 ⟨#[]⟩ 0 ⟨#[]⟩ 6, rfl, HPN.out (by trivial)⟩, ?_⟩
    exact HK1.out.fresh (Kept.six (Kept.refl (fun q => q = g) w1) rfl _ _ _ _ _ _) (fun b hb e => by have := HGS.out; omega)
  · have HLT : Hid (k < M) := by show _ < _; omega
    have hne : ((M : Int) == (k : Int)) = false := by rw [beq_eq_false_iff_ne]; omega
    have hne' : ((M : Nat) == (k : Nat)) = false := by rw [beq_eq_false_iff_ne]; omega
    clear heq
    go_upto_region 32 with fail
    clear hne hne'
    go_loopw [23] (fun v wr => ∃ i : Nat, k ≤ i ∧ i ≤ M ∧ v = .int .i64 i ∧ OwnR wr b t.length (Rw.csd t k i 126) ∧ Kept (fun q => q = b) w1 wr) (fun v _ => M - (intOf v).toNat)
    case atStart => exact ⟨k, Nat.le_refl _, hkM, rfl, by rw [csd_lo' hk]; exact HO1.out, Kept.refl _ _⟩
    case round =>
      obtain ⟨i, hi1, hi2, rfl, hO, hkw⟩ := hrel
      have HO := Lib.hid hO
      have HKW := Lib.hid hkw
      clear hO hkw
      by_cases hlt : i < M
      · obtain ⟨z, hz⟩ : ∃ x, t[i]? = some x := ⟨_, List.getElem?_eq_getElem (by omega)⟩
        have c0 := HO.out.cell ((csd_get' hi1 (by omega)).trans hz)
        have f9 := HO.out.free i
        have cT := fun w => turned_any z 126 w (HRY.out.at_ hz)
        have HZ := Lib.hid hz
        have b4 : decide (i < M) = true := by simp; omega
        clear hz
        go_wp2_with (go_at_call 64; refine (cT _).mono ?_; rintro e w5 ⟨rfl, hw⟩; have hw2 := hw.symm; subst hw2)
        go_roundw
        case rel => exact ⟨i + 1, by omega, by omega, by go_num, by rw [← csd_step' hi1 (by omega) HZ.out]; exact HO.out.set (by omega) _, HKW.out.setCell (p := ⟨b, i, none⟩) rfl _⟩
        case measure => simp [intOf]; omega
      · obtain rfl : i = M := by omega
        have HS : Hid (∀ W, Kept (fun q => q = g) wr W → (convert 31 9 (.slice (some ⟨b, 0, none⟩) t.length cap)).run Tryd.prog W = .ok (.string NX) W) := fun W h => by
          have := run_txt (c := cap) (HO.out.rn.kept h (fun a e => by injection e with e; rw [← e]; have := HGB.out; show ¬ b = g; omega))
          rw [HNX.out] at this
          exact this
        have hTr : Tabs wr := HI1.out.tabs.kept HKW.out (show ¬ 0 = b by have := HB1.out; omega) (show ¬ 1 = b by have := HB1.out; omega)
        have HG2 := Lib.hid ((HKW.out.block g (heap_lt HI1.out.chg) (show ¬ g = b by have := HGB.out; omega)).trans HI1.out.chg)
        have HK2 : Hid (Kept (fun _ => False) w wr) := HK1.out.fresh HKW.out (fun q hq (e : q = b) => by have := HGS.out; have := HGB.out; omega)
        have K0 := HS.out _ (Kept.refl _ wr)
        have K1 := HS.out _ (Kept.refl _ wr).drew
        have hTd : Tabs wr.drew := hTr
        have cRd := HCR.out b cap wr.drew HO.out.rn
        have b4 : decide (i < i) = false := by simp
        go_upto_region 35 with fail
        go_region_held3 (fun (w' : World) => (convert 31 9 (.slice (some ⟨b, 0, none⟩) t.length cap)).run Tryd.prog w' = .ok (.string NX) w')
          (first | with_reducible exact K1 | with_reducible exact K0 | with_reducible exact K3 | exact HS.out _ (Kept.six HK3.out rfl _ _ _ _ _ _))
          (first
            | (go_at_call 59; refine cRd.mono ?_; rintro e w2 ⟨rfl, hw⟩; have hw2 := hw.symm; subst hw2)
            | (go_at_call 62; refine (HCM.out _ hTd).mono ?_; rintro e w3 ⟨⟨a, d, p, x', tk, E, rfl, hp⟩, hk3⟩; have HP := Lib.hid hp; have HK3 : Hid (Kept (fun q => q = g) wr w3) := (Kept.refl _ wr).drew.trans hk3.any; have HK4 : Hid (Kept (fun _ => False) w w3) := HK2.out.drew.trans hk3; have K3 := HS.out _ HK3.out; have HG3 := Lib.hid ((hk3.block g (heap_lt HG2.out) id).trans HG2.out); obtain ⟨⟨e0, e1, e2, e3, e4, e5⟩, k0, k1, k2, k3, k4, k5⟩ := chg_facts HG3.out; clear hp hk3; unfold chgT))
        all_goals
          go_wp2_with fail
          refine bodyPost_ret (res_chg rfl _ _ g _ _ _ _ _ _ (0, 0) rfl (chg_six HG3.out _ _ _ _ _ _)) rfl ⟨⟨chgT a d p x' tk E, rfl, HPY.out _ HLT.out HP.out⟩, ?_⟩
          exact HK4.out.fresh (Kept.six (Kept.refl (fun q => q = g) w3) rfl _ _ _ _ _ _) (fun b hb e => by have := HGS.out; omega)
theorem told_same {s : ByteArray} {k c : Nat} {key r : Int} (P : Value → Prop)
    (hP : (∃ E : Int, (E != 0) = true ∧ ∀ v, P v → v = chgT 0 0 ⟨#[]⟩ 0 ⟨#[]⟩ E) ∨ (∃ (a d : Int) (p : ByteArray) (x : Int) (tk : ByteArray), ∀ v, P v → v = chgT a d p x tk 0))
    (h1 : ∀ w, Tabs w → Calls Tryd.prog 28 (smArgs s k key r c) w fun e w' => (∃ v, e = .returned v ∧ P v) ∧ Kept (fun _ => False) w w')
    (h2 : ∀ w, Tabs w → Calls Tryd.prog 51 (smArgs s k key r c) w fun e w' => (∃ v, e = .returned v ∧ P v) ∧ Kept (fun _ => False) w w') :
    (∃ E : Int, (E != 0) = true ∧ NoneC 28 (smArgs s k key r c) E ∧ ∃ (a d : Int) (p : ByteArray) (x : Int) (tk : ByteArray), ∀ w, Tabs w → Calls Tryd.prog 51 (smArgs s k key r c) w fun e w' => e = .returned (.tuple #[chgV a d p x tk false, .int .i64 E]) ∧ Kept (fun _ => False) w w') ∨
      (∃ (a d : Int) (p : ByteArray) (x : Int) (tk : ByteArray), SomeC 28 (smArgs s k key r c) a d p x tk ∧ SomeC 51 (smArgs s k key r c) a d p x tk) := by
  rcases hP with ⟨E, hE, h⟩ | ⟨a, d, p, x, tk, h⟩
  · exact .inl ⟨E, hE, fun w hT => (h1 w hT).mono fun e w' ⟨⟨v, he, hv⟩, hk⟩ => ⟨by rw [he, h v hv]; rfl, hk⟩, 0, 0, ⟨#[]⟩, 0, ⟨#[]⟩, fun w hT => (h2 w hT).mono fun e w' ⟨⟨v, he, hv⟩, hk⟩ => ⟨by rw [he, h v hv]; rfl, hk⟩⟩
  · exact .inr ⟨a, d, p, x, tk, fun w hT => (h1 w hT).mono fun e w' ⟨⟨v, he, hv⟩, hk⟩ => ⟨by rw [he, h v hv]; rfl, hk⟩, fun w hT => (h2 w hT).mono fun e w' ⟨⟨v, he, hv⟩, hk⟩ => ⟨by rw [he, h v hv]; rfl, hk⟩⟩
theorem madeV_case (s : ByteArray) (u : List Int) (at' : Int) : (∃ E : Int, (E != 0) = true ∧ ∀ v, MadeV s u at' v → v = chgT 0 0 ⟨#[]⟩ 0 ⟨#[]⟩ E) ∨ (∃ (a d : Int) (p : ByteArray) (x : Int) (tk : ByteArray), ∀ v, MadeV s u at' v → v = chgT a d p x tk 0) := by
  by_cases h : mayB (runesBytes u) = true
  · exact .inr ⟨_, _, _, _, _, fun v hv => hv.1 h⟩
  · exact .inl ⟨4, rfl, fun v hv => hv.2 (by simpa using h)⟩
theorem keyS_cut {key : Int} (hkey : key = 120 ∨ key = 88) : KeyS key := keyS_of (fun s k r c w hs hT hno => sof_no s k key r c w hs hT hno) fun s k c r hm hk hc1 hc2 _ _ =>
  told_same (fun v => CutV s key (cutS (rs s) key k c).1 (cutS (rs s) key k c).2 v) (by
    obtain ⟨h1, h2⟩ := cutS_le (key := key) (c := c) hk
    by_cases h : (cutS (rs s) key k c).1 = (cutS (rs s) key k c).2
    · exact .inl ⟨6, rfl, fun v hv => hv.1 h⟩
    · exact .inr ⟨_, _, _, _, _, fun v hv => hv.2 (by omega)⟩)
    (fun w hT => sof_cut s key r k c w hT hm hk hc1 hc2 hkey) (fun w hT => rsmall_cut s key r k c w hT hm hk hc1 hc2 hkey)
theorem keyS_x : KeyS 120 := keyS_cut (.inl rfl)
theorem keyS_X : KeyS 88 := keyS_cut (.inr rfl)
theorem keyS_r : KeyS 114 := keyS_of (fun s k r c w hs hT hno => sof_no s k 114 r c w hs hT hno) fun s k c r hm hk hc1 hc2 _ hr =>
  told_same (fun v => TakeR s k c r v) (by
    by_cases h : k + c ≤ Rw.en (rs s) k
    · rcases madeV_case s (Rw.rep (rs s) k (k + c) r) (((k + c : Nat) : Int) - 1) with ⟨E, hE, hv⟩ | ⟨a, d, p, x, tk, hv⟩
      · exact .inl ⟨E, hE, fun v h' => hv v (h'.2 h)⟩
      · exact .inr ⟨a, d, p, x, tk, fun v h' => hv v (h'.2 h)⟩
    · exact .inl ⟨6, rfl, fun v h' => h'.1 (by omega)⟩)
    (fun w hT => sof_r s r k c w hT hm hk hc1 hc2 (hr rfl)) (fun w hT => rsmall_r s r k c w hT hm hk hc1 hc2 (hr rfl))
theorem keyS_t : KeyS 126 := keyS_of (fun s k r c w hs hT hno => sof_no s k 126 r c w hs hT hno) fun s k c r hm hk hc1 hc2 _ hr =>
  told_same (fun v => TakeT s k (min (k + c) (Rw.en (rs s) k)) v) (by
    have := Rw.en_ge (rs s) k
    by_cases h : k = min (k + c) (Rw.en (rs s) k)
    · exact .inl ⟨6, rfl, fun v h' => h'.1 h⟩
    · rcases madeV_case s (Rw.csd (rs s) k (min (k + c) (Rw.en (rs s) k)) 126) (Rw.rst (Rw.csd (rs s) k (min (k + c) (Rw.en (rs s) k)) 126) (min (k + c) (Rw.en (rs s) k)) : Nat) with ⟨E, hE, hv⟩ | ⟨a, d, p, x, tk, hv⟩
      · exact .inl ⟨E, hE, fun v h' => hv v (h'.2 (by omega))⟩
      · exact .inr ⟨a, d, p, x, tk, fun v h' => hv v (h'.2 (by omega))⟩)
    (fun w hT => sof_t s r k c w hT hm hk hc1 hc2) (fun w hT => rsmall_t s r k c w hT hm hk hc1 hc2)
theorem keyS_no {key : Int} (h : key ∉ smKeys) : KeyS key := keyS_of (fun s k r c w hs hT hno => sof_no s k key r c w hs hT hno) fun s k c r hm hk hc1 hc2 hk' _ => absurd hk' h

set_option maxRecDepth 100000 in
theorem sapply_any (s : ByteArray) (pa pd : Nat) (ins : ByteArray) (w : World) (hs : s.size ≤ 6000) (hp : pa + pd ≤ (rs s).length) (hi : ins.size ≤ 100000) :
    Calls Tryd.prog 23 #[.string s, patV pa pd ins] w fun e w' => e = .returned (.string (runesBytes ((rs s).take pa) ++ ins ++ runesBytes ((rs s).drop (pa + pd)))) ∧ Kept (fun _ => False) w w' := by
  have hl := rs_len s
  have hka : Kept (fun _ => False) w (w.alloc (patO pa pd ins)) := (Kept.refl _ w).alloc _
  have HG0 : Hid ((w.alloc (patO pa pd ins)).heap[w.heap.size]? = some (patO pa pd ins)) := heap_alloc_new w _
  obtain ⟨cap, w2, hcap, hcv, hk2, hlt, hR⟩ := conv_rs s (w.alloc (patO pa pd ins)) (by omega)
  have hz : (w.alloc (patO pa pd ins)).heap.size = w.heap.size + 1 := by simp
  rw [hz] at hcv hR
  obtain ⟨f0, f1, f2⟩ := pat_facts' ((hk2.block _ (heap_lt HG0.out) id).trans HG0.out)
  have hsA : (runesBytes ((rs s).take pa)).size ≤ 100000 := by have := txt_size4 ((rs s).take pa); rw [List.length_take] at this; omega
  have hsC : (runesBytes ((rs s).drop (pa + pd))).size ≤ 100000 := by have := txt_size4 ((rs s).drop (pa + pd)); rw [List.length_drop] at this; omega
  generalize rs s = t at *
  have hcA := fun u => run_cut_h u (some ⟨w.heap.size + 1, 0, none⟩) t.length cap pa (pa : Int) rfl (by omega)
  have hcC := fun u => run_cut_l u (some ⟨w.heap.size + 1, 0, none⟩) t.length cap (pa + pd) ((pa : Int) + (pd : Int)) (by omega) hp hcap
  have hRA : Rn w2 (cutB (some ⟨w.heap.size + 1, 0, none⟩) cap 0) pa (t.take pa) := by rw [cutB_zero]; exact hR.take (by omega)
  have hRC : Rn w2 (cutB (some ⟨w.heap.size + 1, 0, none⟩) cap (pa + pd)) (t.length - (pa + pd)) (t.drop (pa + pd)) := hR.drop hp hcap
  generalize cutB (some ⟨w.heap.size + 1, 0, none⟩) cap 0 = CA at *
  generalize cutB (some ⟨w.heap.size + 1, 0, none⟩) cap (pa + pd) = CC at *
  have htA : ∀ r, (convert 31 9 (.slice CA pa cap)).run Tryd.prog (w2.drewN r) = .ok (.string (runesBytes (t.take pa))) (w2.drewN r) := fun r => run_txt (w := w2.drewN r) hRA
  have htC : ∀ r, (convert 31 9 (.slice CC (t.length - (pa + pd)) (cap - (pa + pd)))).run Tryd.prog (w2.drewN r) = .ok (.string (runesBytes (t.drop (pa + pd)))) (w2.drewN r) := fun r => run_txt (w := w2.drewN r) hRC
  generalize runesBytes (t.take pa) = SA at *
  generalize runesBytes (t.drop (pa + pd)) = SC at *
  have ad1 : ∀ u, (Op.stringOp .add SA ins).run Tryd.prog u = .ok (.string (SA ++ ins)) u := fun u => run_string_add_sum u SA ins (by omega)
  have ad2 : ∀ u, (Op.stringOp .add (SA ++ ins) SC).run Tryd.prog u = .ok (.string (SA ++ ins ++ SC)) u := fun u => run_string_add_sum u (SA ++ ins) SC (by rw [ByteArray.size_append]; omega)
  have hw1 : IntKind.i64.wrap ((pa : Int) + (pd : Int)) = (pa : Int) + (pd : Int) := IntWalk.i64_in _ ⟨by omega, by omega⟩
  have HK2 := Lib.hid (hka.trans hk2)
  clear hk2 hka hR hRA hRC
  go_enter Tryd.func23, Tryd.ntmps23
  go_upto_region 2 with fail
  go_quiet (fail)
  go_wp2
  go_ret
  exact ⟨rfl, HK2.out.drewN _⟩
/-- The text that wakes. -/
def abS : ByteArray := ⟨#[97, 98]⟩
theorem abS_rs : rs abS = [97, 98] := by decide
theorem abS_may : mayB abS = true := by decide
theorem snum_any (x : Int) (w : World) : Calls Tryd.prog 29 #[.int .i64 x] w fun e w' => e = .returned (.int .i64 x) ∧ w' = w := by
  go_enter Tryd.func29, Tryd.ntmps29
  go_wp2
  go_ret
  exact ⟨rfl, rfl⟩
theorem swake_vals {v : Value} (h : CutV abS 120 (cutS (rs abS) 120 0 1).1 (cutS (rs abS) 120 0 1).2 v) : v = chgT 0 1 ⟨#[]⟩ 0 ⟨#[97]⟩ 0 := by
  rw [abS_rs] at h
  have e0 : (cutS [97, 98] 120 0 1) = (0, 1) := by decide
  rw [e0] at h
  rw [h.2 (by decide), abS_rs]
  have e1 : Rw.bat [97, 98] (Rw.lft [97, 98] 0 1) = 0 := by decide
  have e2 : Rw.bdel [97, 98] (Rw.lft [97, 98] 0 1) = 1 := by decide
  have e3 : runesBytes (Rw.bins [97, 98] (Rw.lft [97, 98] 0 1)) = ⟨#[]⟩ := by decide
  have e4 : runesBytes (Rw.tkn [97, 98] 0 1) = ⟨#[97]⟩ := by decide
  have e5 : Rw.rst (Rw.lft [97, 98] 0 1) 0 = 0 := by decide
  rw [e1, e2, e3, e4, if_pos rfl, e5]
  rfl
theorem swake_app : runesBytes ((rs abS).take 0) ++ (⟨#[]⟩ : ByteArray) ++ runesBytes ((rs abS).drop (0 + 1)) = ⟨#[98]⟩ := by
  rw [abS_rs]
  decide
set_option maxRecDepth 100000 in
theorem swakes_any (w : World) (hT : Tabs w) : Calls Tryd.prog 32 #[] w fun e w' => e = .returned (.bool true) ∧ Kept (fun _ => False) w w' := by
  have cM : Calls Tryd.prog 28 #[.string abS, .int .i64 0, .int .i64 120, .int .i64 0, .int .i64 1] w fun e w' => e = .returned (chgT 0 1 ⟨#[]⟩ 0 ⟨#[97]⟩ 0) ∧ Kept (fun _ => False) w w' :=
    (sof_cut abS 120 0 0 1 w hT abS_may (by omega) (by omega) (by omega) (.inl rfl)).mono fun e w' ⟨⟨v, he, hv⟩, hk⟩ => ⟨by rw [he, swake_vals hv], hk⟩
  have cA := fun w => sapply_any abS 0 1 ⟨#[]⟩ w (by decide) (by rw [abS_rs]; decide) (by decide)
  rw [swake_app] at cA
  unfold abS at *
  unfold chgT at cM
  have HCA := Lib.hid cA
  clear hT cA
  go_enter Tryd.func32, Tryd.ntmps32
  go_wp2_with (first | (go_at_call 28; refine cM.mono ?_; rintro e w1 ⟨rfl, hk1⟩; have HK1 := Lib.hid hk1; clear hk1 cM) | (go_at_call 29; refine (snum_any _ _).mono ?_; rintro e w2 ⟨rfl, hw⟩; have hw2 := hw.symm; subst hw2) | (go_at_call 23; refine (HCA.out _).mono ?_; rintro e w3 ⟨rfl, hk3⟩))
  go_ret
  exact ⟨rfl, (HK1.out.alloc _).trans hk3⟩
end Go.Proofs.YtkeojjojilfklaaDoor
