/-
  ROWS SHIFTED, THE REFERENCE's Change by > and <; by these keys both tell the same.
-/
import Derived.Test.YtkeojjojilfklaaDoorSf2
set_option linter.unusedVariables false
namespace Go.Proofs.YtkeojjojilfklaaDoor
open Go Go.RowKit

theorem heap_drewQ {w : World} {g : Nat} {o : Option Obj} (h : w.heap[g]? = o) : w.drew.heap[g]? = o := h
set_option maxRecDepth 100000 in
set_option maxHeartbeats 1000000 in
theorem rchange_s (s : ByteArray) (lo hi : Nat) (line : Bool) (key : Int) (k : Nat) (w : World) (hT : Tabs w) (hm : mayB s = true) (hk : k ≤ (rs s).length) (hr : Rw.Rng (rs s) lo hi line) (hkey : key = 62 ∨ key = 60) :
    Calls Tryd.prog 36 #[.string s, rngV lo hi line, .int .i64 key, .int .i64 k] w fun e w' => (∃ v, e = .returned v ∧ ShV s lo hi key v) ∧ Kept (fun _ => False) w w' := by
  have hka : Kept (fun _ => False) w ((w.alloc (rngO lo hi line)).alloc (chgO 0 0 ⟨#[]⟩ 0 ⟨#[]⟩ false)) := ((Kept.refl _ w).alloc _).alloc _
  have HX0 : Hid (((w.alloc (rngO lo hi line)).alloc (chgO 0 0 ⟨#[]⟩ 0 ⟨#[]⟩ false)).heap[w.heap.size]? = some (rngO lo hi line)) := heap_two' w _ _
  have HG0 : Hid (((w.alloc (rngO lo hi line)).alloc (chgO 0 0 ⟨#[]⟩ 0 ⟨#[]⟩ false)).heap[w.heap.size + 1]? = some (chgO 0 0 ⟨#[]⟩ 0 ⟨#[]⟩ false)) := heap_two'' w _ _
  have HT0 := Lib.hid (hT.kept hka id id)
  have HKA := Lib.hid hka
  have hsm := mayB_size hm
  have hl4 : (rs s).length ≤ 4000 := by have := rs_len s; omega
  have hspt := Rw.spt_le (line := line) (at' := k) (Nat.le_trans hr.1 hr.2.1)
  have hlo : lo ≤ (rs s).length := Nat.le_trans hr.1 hr.2.1
  obtain ⟨h1, h2, _⟩ := hr
  have cV := fun W => conv_rs s W (by omega)
  have cS := fun b cap W (hW : Rn W (some ⟨b, 0, none⟩) (rs s).length (rs s)) => rrest_any (some ⟨b, 0, none⟩) (rs s).length cap (rs s) lo W hW hlo (by omega)
  have cC := fun b cap W (hW : Rn W (some ⟨b, 0, none⟩) (rs s).length (rs s)) => column_yes (some ⟨b, 0, none⟩) (rs s).length cap (rs s) lo k W hW hlo hk (by omega)
  have cT := fun b cap W hW hA hc => rshifted_any s b cap lo hi line key W hW hm hA hc h1 h2 hkey
  generalize ShV s lo hi key = P at *
  have HCT := Lib.hid cT
  clear cT
  generalize rs s = t at *
  generalize hTK : runesBytes (Rw.tkn t lo hi) = TK at *
  have HTK := Lib.hid hTK
  clear hTK
  obtain ⟨xb, hxb⟩ : ∃ xb, w.heap.size = xb := ⟨_, rfl⟩
  have HXB := Lib.hid hxb
  rw [hxb] at HX0 HG0
  have HXL : Hid (xb + 1 < ((w.alloc (rngO lo hi line)).alloc (chgO 0 0 ⟨#[]⟩ 0 ⟨#[]⟩ false)).heap.size) := heap_lt HG0.out
  clear hxb hka hT
  go_enter Tryd.func36, Tryd.ntmps36
  go_upto_region 1 with fail
  simp only [HXB.out]
  generalize (w.alloc (rngO lo hi line)).alloc (chgO 0 0 ⟨#[]⟩ 0 ⟨#[]⟩ false) = W0 at *
  obtain ⟨cap, w1, hcap, hcv, hk1, hlt1, hR1⟩ := cV W0
  have hI1 : OfI lo hi line W0.heap.size xb t w1 := ⟨HT0.out.kept hk1 id id, hR1, (hk1.block _ (heap_lt HX0.out) id).trans HX0.out, (hk1.block _ (heap_lt HG0.out) id).trans HG0.out⟩
  obtain ⟨b, hb⟩ : ∃ b, W0.heap.size = b := ⟨_, rfl⟩
  rw [hb] at hcv hI1 HXL
  have HB := Lib.hid hb
  have HI1 := Lib.hid hI1
  have HK1 := Lib.hid (HKA.out.trans hk1)
  have HCS := Lib.hid (cS b cap w1 hI1.rn)
  have HCC := Lib.hid (cC b cap w1 hI1.rn)
  obtain ⟨a0, a1, a2⟩ := hI1.cells
  have hcB := fun u => run_cut_lh u (some ⟨b, 0, none⟩) t.length cap lo hi (lo : Int) (hi : Int) rfl rfl h1 (by omega)
  have hRB : Rn w1 (cutB (some ⟨b, 0, none⟩) cap lo) (hi - lo) (Rw.tkn t lo hi) := hI1.rn.cut h1 h2 hcap
  generalize cutB (some ⟨b, 0, none⟩) cap lo = CB at *
  have htB : (convert 31 9 (.slice CB (hi - lo) (cap - lo))).run Tryd.prog w1 = .ok (.string TK) w1 := by rw [← HTK.out]; exact run_txt hRB
  clear hRB hI1 hk1 cV cS cC hb hR1
  cases line
  all_goals
    rcases hkey with rfl | rfl
    all_goals
      go_upto_region 17 with (first
        | (go_at_call 59; refine HCS.out.mono ?_; rintro e w2 ⟨rfl, hw⟩; have hw2 := hw.symm; subst hw2)
        | (go_at_call 60; refine HCC.out.mono ?_; rintro e w2 ⟨rfl, hw⟩; have hw2 := hw.symm; subst hw2))
      clear a0 a1 a2
      obtain ⟨a0, a1, a2⟩ := HI1.out.cells
      go_wp2_with (go_at_call 63; refine (HCT.out b cap _ HI1.out.tabs HI1.out.rn hcap).mono ?_; rintro e w3 ⟨⟨a, d, p, x, tk, E, rfl, hp⟩, hk3⟩; have HP := Lib.hid hp; have HI3 := Lib.hid (HI1.out.kept hk3); have HK3 := Lib.hid (HK1.out.trans hk3); obtain ⟨⟨c0, c1, c2, c3, c4, c5⟩, k0, k1, k2, k3, k4, k5⟩ := chg_facts HI3.out.chg; clear hp hk3; unfold chgQ)
      refine bodyPost_ret (res_chg rfl _ _ (xb + 1) _ _ _ _ _ _ (0, 0) rfl (chg_six HI3.out.chg _ _ _ _ _ _)) rfl ⟨⟨chgQ a d p x tk E, rfl, HP.out⟩, ?_⟩
      exact HK3.out.fresh (Kept.six (Kept.refl (fun q => q = xb + 1) _) rfl _ _ _ _ _ _) (fun b hb e => by have := HXB.out; omega)
/-- May it be asked? -/
def GoodC (s : ByteArray) (lo hi : Int) (line : Bool) (key k : Int) : Prop := mayB s = true ∧ RngI (rs s) lo hi line ∧ key ∈ opKeys ∧ 0 ≤ k ∧ k ≤ (rs s).length
/-- What the reference tells where it may be: the same, or an error, and then the program tells that error and nothing else. -/
def RefT (s : ByteArray) (lo hi : Int) (line : Bool) (key k : Int) (a d : Int) (p : ByteArray) (x : Int) (tk : ByteArray) (l : Bool) (E : Int) : Prop :=
  ∀ w, Tabs w → Calls Tryd.prog 36 #[.string s, rngV lo hi line, .int .i64 key, .int .i64 k] w fun e w' =>
    (∃ (B ra rd : Int) (rp : ByteArray) (rx : Int) (rt : ByteArray) (rl : Bool), e = .returned (.tuple #[chgV ra rd rp rx rt rl, .int .i64 B]) ∧ E = B ∧
      ((B = 0 ∧ ra = a ∧ rd = d ∧ rp = p ∧ rx = x ∧ rt = tk ∧ rl = l) ∨ ((B != 0) = true ∧ a = 0 ∧ d = 0 ∧ p = ⟨#[]⟩ ∧ x = 0 ∧ tk = ⟨#[]⟩ ∧ l = false))) ∧ Kept (fun _ => False) w w'
def ToldC (s : ByteArray) (lo hi : Int) (line : Bool) (key k : Int) (a d : Int) (p : ByteArray) (x : Int) (tk : ByteArray) (l : Bool) (E : Int) : Prop :=
  (GoodC s lo hi line key k → RefT s lo hi line key k a d p x tk l E) ∧ (¬ GoodC s lo hi line key k → a = 0 ∧ d = 0 ∧ p = ⟨#[]⟩ ∧ x = 0 ∧ tk = ⟨#[]⟩ ∧ l = false ∧ E = 1)
theorem key_no {key : Int} {s : ByteArray} {lo hi : Int} {line : Bool} {k : Int} {w : World} (hs : s.size ≤ 140737488351232) (hT : Tabs w) (h : ¬ GoodC s lo hi line key k) :
    Calls Tryd.prog 20 #[.string s, rngV lo hi line, .int .i64 key, .int .i64 k] w fun e w' => (∃ (a d : Int) (p : ByteArray) (x : Int) (tk : ByteArray) (l : Bool) (E : Int), e = .returned (.tuple #[chgV a d p x tk l, .int .i64 E]) ∧ ToldC s lo hi line key k a d p x tk l E) ∧ Kept (fun _ => False) w w' := by
  have fin : ∀ (e : Ending) (w' : World), (e = .returned (.tuple #[chgV 0 0 ⟨#[]⟩ 0 ⟨#[]⟩ false, .int .i64 1]) ∧ Kept (fun _ => False) w w') → ((∃ (a d : Int) (p : ByteArray) (x : Int) (tk : ByteArray) (l : Bool) (E : Int), e = .returned (.tuple #[chgV a d p x tk l, .int .i64 E]) ∧ ToldC s lo hi line key k a d p x tk l E) ∧ Kept (fun _ => False) w w') :=
    fun e w' he => ⟨⟨0, 0, ⟨#[]⟩, 0, ⟨#[]⟩, false, 1, he.1, fun hg => absurd hg h, fun _ => ⟨rfl, rfl, rfl, rfl, rfl, rfl, rfl⟩⟩, he.2⟩
  by_cases h1 : mayB s = true ∧ 0 ≤ k ∧ k ≤ (rs s).length
  · obtain ⟨hm, hk0, hk1⟩ := h1
    obtain ⟨kk, rfl⟩ := Int.eq_ofNat_of_zero_le hk0
    by_cases h2 : RngI (rs s) lo hi line
    · have h3 : key ∉ opKeys := fun h3 => h ⟨hm, h2, h3, hk0, hk1⟩
      exact (of_form3 s lo hi line key kk w hT hm (by omega) h2 h3).mono fin
    · exact (of_form2 s lo hi line key kk w hT hm (by omega) h2).mono fin
  · exact (of_form1 s lo hi line key k w hs hT h1).mono fin
/-- Go's tables, and the library's own number. -/
structure Tabs2 (w : World) : Prop where
  t : Tabs w
  m : Mx w
theorem Tabs2.kept {w w' : World} (h : Tabs2 w) (hk : Kept (fun _ => False) w w') : Tabs2 w' := ⟨h.t.kept hk id id, h.m.kept hk⟩
/-- A key by which the program tells what the reference does. -/
def KeyO2 (key : Int) : Prop := ∀ (s : ByteArray) (lo hi : Int) (line : Bool) (k : Int) (w : World), s.size ≤ 140737488351232 → Tabs2 w →
  Calls Tryd.prog 20 #[.string s, rngV lo hi line, .int .i64 key, .int .i64 k] w fun e w' => (∃ (a d : Int) (p : ByteArray) (x : Int) (tk : ByteArray) (l : Bool) (E : Int), e = .returned (.tuple #[chgV a d p x tk l, .int .i64 E]) ∧ ToldC s lo hi line key k a d p x tk l E) ∧ Kept (fun _ => False) w w'
theorem keyO2_s {key : Int} (hkey : key = 62 ∨ key = 60) : KeyO2 key := by
  intro s lo hi line k w hs hT
  by_cases hg : GoodC s lo hi line key k
  · obtain ⟨hm, ⟨lo', hi', rfl, rfl, hr⟩, hk, hk0, hk1⟩ := id hg
    obtain ⟨kk, rfl⟩ := Int.eq_ofNat_of_zero_le hk0
    refine (of_s s lo' hi' line key kk w hT.t hT.m hm (by omega) hr hkey).mono ?_
    rintro e w' ⟨⟨v, rfl, hv⟩, hk'⟩
    by_cases hmz : mayB (runesBytes (shZ (rs s) lo' hi' key)) = true
    · rw [hv.1 hmz]
      refine ⟨⟨_, _, _, _, _, false, 0, rfl, fun _ w2 hT2 => ?_, fun hn => absurd hg hn⟩, hk'⟩
      refine (rchange_s s lo' hi' line key kk w2 hT2 hm (by omega) hr hkey).mono ?_
      rintro e2 w3 ⟨⟨v2, rfl, hv2⟩, hk3⟩
      rw [hv2.1 hmz]
      exact ⟨⟨0, _, _, _, _, _, false, rfl, rfl, .inl ⟨rfl, rfl, rfl, rfl, rfl, rfl, rfl⟩⟩, hk3⟩
    · have hmz' : mayB (runesBytes (shZ (rs s) lo' hi' key)) = false := by simpa using hmz
      rw [hv.2 hmz']
      refine ⟨⟨0, 0, ⟨#[]⟩, 0, ⟨#[]⟩, false, 4, rfl, fun _ w2 hT2 => ?_, fun hn => absurd hg hn⟩, hk'⟩
      refine (rchange_s s lo' hi' line key kk w2 hT2 hm (by omega) hr hkey).mono ?_
      rintro e2 w3 ⟨⟨v2, rfl, hv2⟩, hk3⟩
      rw [hv2.2 hmz']
      exact ⟨⟨4, 0, 0, ⟨#[]⟩, 0, ⟨#[]⟩, false, rfl, rfl, .inr ⟨rfl, rfl, rfl, rfl, rfl, rfl, rfl⟩⟩, hk3⟩
  · exact key_no hs hT.t hg
end Go.Proofs.YtkeojjojilfklaaDoor
