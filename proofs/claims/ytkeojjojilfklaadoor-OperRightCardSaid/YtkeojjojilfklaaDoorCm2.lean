/-
  THE LAWS' COMMON WALK (change): whatever an ask holds, by keys by which the program tells what the reference does.
-/
import Derived.Test.YtkeojjojilfklaaDoorSf3
import Derived.Test.YtkeojjojilfklaaDoorRng
import Derived.Test.YtkeojjojilfklaaDoorWk
set_option linter.unusedVariables false
namespace Go.Proofs.YtkeojjojilfklaaDoor
open Go Go.RowKit

/-- What a law's loops hold of every world. -/
structure HeldC (w : World) (pb : Nat) (p : AskV) (K : Option Addr) (kn : Nat) (keys : List Int) : Prop where
  pb : PB w pb p
  ask : AskOk w p
  keys : Nums w K kn keys
  tabs : Tabs2 w
theorem HeldC.kept {w w' : World} {pb : Nat} {p : AskV} {K : Option Addr} {kn : Nat} {keys : List Int} (h : HeldC w pb p K kn keys) (hk : Kept (fun _ => False) w w') : HeldC w' pb p K kn keys :=
  ⟨h.pb.kept hk id, h.ask.kept hk, h.keys.kept hk (fun _ _ => id), h.tabs.kept hk⟩
structure HeldD (w : World) (pb : Nat) (p : AskV) (K : Option Addr) (kn : Nat) (keys : List Int) (tb : Nat) (t : List Int) (rb : Nat) (l : List (Int × Int × Bool)) : Prop where
  c : HeldC w pb p K kn keys
  rn : Rn w (some ⟨tb, 0, none⟩) t.length t
  rngs : Rngs w (some ⟨rb, 0, none⟩) 15 l
theorem HeldD.kept {w w' : World} {pb : Nat} {p : AskV} {K : Option Addr} {kn : Nat} {keys : List Int} {tb : Nat} {t : List Int} {rb : Nat} {l : List (Int × Int × Bool)} (h : HeldD w pb p K kn keys tb t rb l) (hk : Kept (fun _ => False) w w') : HeldD w' pb p K kn keys tb t rb l :=
  ⟨h.c.kept hk, h.rn.kept hk (fun _ _ => id), h.rngs.kept hk (fun _ _ => id)⟩
theorem rrange_t (A : Option Addr) (n c : Nat) (t : List Int) (lo hi : Int) (line : Bool) (w : World) (hA : Rn w A n t) (hn : n ≤ 100000) (h : RngI t lo hi line) :
    Calls Tryd.prog 19 #[.slice A n c, rngV lo hi line] w fun e w' => e = .returned (.bool true) ∧ Kept (fun _ => False) w w' := rrange_any A n c t lo hi line true w hA hn ⟨fun _ => h, fun _ => rfl⟩
theorem rrange_f (A : Option Addr) (n c : Nat) (t : List Int) (lo hi : Int) (line : Bool) (w : World) (hA : Rn w A n t) (hn : n ≤ 100000) (h : ¬ RngI t lo hi line) :
    Calls Tryd.prog 19 #[.slice A n c, rngV lo hi line] w fun e w' => e = .returned (.bool false) ∧ Kept (fun _ => False) w w' := rrange_any A n c t lo hi line false w hA hn ⟨fun h => Bool.noConfusion h, fun h' => absurd h' h⟩
theorem rkey_t (key : Int) (w : World) (h : key ∈ opKeys) : Calls Tryd.prog 34 #[.int .i64 key] w fun e w' => e = .returned (.bool true) ∧ Kept (fun _ => False) w w' := rkey_any key true w ⟨fun _ => h, fun _ => rfl⟩
theorem rkey_f (key : Int) (w : World) (h : key ∉ opKeys) : Calls Tryd.prog 34 #[.int .i64 key] w fun e w' => e = .returned (.bool false) ∧ Kept (fun _ => False) w w' := rkey_any key false w ⟨fun h => Bool.noConfusion h, fun h' => absurd h' h⟩
abbrev zeroC : Obj := chgO 0 0 ⟨#[]⟩ 0 ⟨#[]⟩ false
set_option maxRecDepth 100000 in
set_option maxHeartbeats 4000000 in
theorem changes_any (p : AskV) (K : Option Addr) (kn kc : Nat) (keys : List Int) (w : World) (hp : AskOk w p) (hK : Nums w K kn keys) (hkn : kn ≤ 100) (hT : Tabs2 w) (hok : ∀ key ∈ keys, KeyO2 key) :
    Calls Tryd.prog 15 #[.agg p.cells, .slice K kn kc] w fun e w' => e = .returned (.bool true) ∧ Kept (fun _ => False) w w' := by
  have hK0 : Hid (Kept (fun _ => False) w (w.alloc (.cells p.cells 28))) := (Kept.refl _ w).alloc _
  have hH0 : Hid (HeldC (w.alloc (.cells p.cells 28)) w.heap.size p K kn keys) :=
    ⟨heap_alloc_new w _, hp.kept hK0.out, hK.kept hK0.out (fun _ _ => id), hT.kept hK0.out⟩
  have cH := heavy10_any p (w.alloc (.cells p.cells 28)) hH0.out.ask
  have cRG := fun R n c t W hR hn => ranges_any p R n c t W hR hn
  have HCRG := Lib.hid cRG
  have HOK := Lib.hid hok
  clear hp hK hT cRG hok
  obtain ⟨A, n0, c0, ss, xa, xb, xr, xc, xk, xn, xq⟩ := p
  unfold AskV.cells at *
  simp only at *
  go_enter Tryd.func15, Tryd.ntmps15
  go_wp2_with (go_at_call 16; refine cH.mono ?_; rintro e w1 ⟨⟨hv, rfl, hsm⟩, hk1⟩; have HS := Lib.hid hsm; have HK1 := Lib.hid (hK0.out.trans hk1); have HH := Lib.hid (hH0.out.kept hk1); clear hsm hk1 hH0 hK0 cH)
  · exact bodyPost_ret (results_tmp rfl _ _ _) rfl ⟨rfl, HK1.out⟩
  have hv0 : hv = false := by assumption
  subst hv0
  have hss : ∀ s ∈ ss, s.size ≤ 6000 := HS.out rfl
  have HSS := Lib.hid hss
  clear hss HS
  generalize hpb : w.heap.size = pb at HH ⊢
  have HPB := Lib.hid hpb
  clear hpb
  go_loopw [5] (fun v wr => ∃ i : Nat, i ≤ n0 ∧ i ≤ 3 ∧ v = .int .i64 i ∧ Kept (fun _ => False) w1 wr) (fun v _ => n0 - (intOf v).toNat)
  case atStart => exact ⟨0, Nat.zero_le _, Nat.zero_le _, rfl, Kept.refl _ _⟩
  case round =>
    obtain ⟨i, hi, hi4, rfl, hki⟩ := hrel
    obtain ⟨wi, hwi⟩ : ∃ wi, wi = wr := ⟨_, rfl⟩
    subst hwi
    have HKi := Lib.hid (HK1.out.trans hki)
    have HHi := Lib.hid (HH.out.kept hki)
    have HKW := Lib.hid hki
    clear hki
    have p0 : wi.cell? ⟨pb, 0, none⟩ = some (.slice A n0 c0) := HHi.out.pb.c 0
    by_cases hgo : i < n0 ∧ i < 3
    · obtain ⟨g1, g2⟩ := hgo
      obtain ⟨ad, s, rfl, hs, hsc, _⟩ := HHi.out.ask.ss.cell g1
      have hsz : s.size ≤ 6000 := HSS.out s (List.mem_of_getElem? hs)
      have hl := rs_len s
      clear hs
      obtain ⟨cap, w2, hcap, hcv, hk2, hlt2, hR⟩ := conv_rs s wi (by omega)
      generalize ht : rs s = t at *
      have HT2 := Lib.hid ht
      have HK2 := Lib.hid (HKi.out.trans hk2)
      have HKW2 := Lib.hid (HKW.out.trans hk2)
      have HH2 := Lib.hid (HHi.out.kept hk2)
      have HR := Lib.hid hR
      have q0 : w2.cell? ⟨pb, 0, none⟩ = some (.slice (some ad) n0 c0) := HH2.out.pb.c 0
      have q1 : w2.cell? ⟨pb, 1, none⟩ = some (.int .i64 xa) := HH2.out.pb.c 1
      have q2 : w2.cell? ⟨pb, 2, none⟩ = some (.int .i64 xb) := HH2.out.pb.c 2
      have q3 : w2.cell? ⟨pb, 3, none⟩ = some (.int .i64 xr) := HH2.out.pb.c 3
      have q4 : w2.cell? ⟨pb, 4, none⟩ = some (.int .i64 xc) := HH2.out.pb.c 4
      have q5 : w2.cell? ⟨pb, 5, none⟩ = some (.int .i64 xk) := HH2.out.pb.c 5
      have q6 : w2.cell? ⟨pb, 6, none⟩ = some (.int .i64 xn) := HH2.out.pb.c 6
      have q7 : w2.cell? ⟨pb, 7, none⟩ = some (.int .i64 xq) := HH2.out.pb.c 7
      clear hk2 hR ht hcap hlt2
      generalize hrb : wi.heap.size = tb at HR hcv
      clear hrb
      have cO := HCRG.out (some ⟨tb, 0, none⟩) t.length cap t w2 HR.out (by omega)
      have b1 : decide (i < n0) = true := by simp; omega
      have b2 : decide (i < 3) = true := by simp; omega
      have b3 : decide ((i : Int) < 3) = true := by simp; omega
      go_wp2_with (go_at_call 18; refine cO.mono ?_; rintro e w3 ⟨hk3, rb, rc, rl, rfl, hrs⟩; have HK3 := Lib.hid (HK2.out.trans hk3); have HKW3 := Lib.hid (HKW2.out.trans hk3); have HD3 : Hid (HeldD w3 pb _ K kn keys tb t rb rl) := ⟨HH2.out.kept hk3, HR.out.kept hk3 (fun _ _ => id), hrs⟩; clear hk3 hrs q0 q1 q2 q3 q4 q5 q6 q7 cO hcv HK2 HH2 HR HKW2 p0 hsc)
      have HTl : Hid (t.length ≤ 6000) := by show _ ≤ _; omega
      go_loopw [9] (fun v wr => ∃ j : Nat, j ≤ 15 ∧ v = .int .i64 j ∧ Kept (fun _ => False) w3 wr) (fun v _ => 15 - (intOf v).toNat)
      case atStart => exact ⟨0, Nat.zero_le _, rfl, Kept.refl _ _⟩
      case round =>
        obtain ⟨j, hj, rfl, hkj⟩ := hrel
        obtain ⟨wj, hwj⟩ : ∃ wj, wj = wr := ⟨_, rfl⟩
        subst hwj
        have HKV4 := Lib.hid hkj
        have HD4 := Lib.hid (HD3.out.kept hkj)
        have HKW4 := Lib.hid (HKW3.out.trans hkj)
        clear hkj
        by_cases hj15 : j < 15
        · have b4 : decide (j < 15) = true := by simp; omega
          have b5 : decide ((j : Int) < 15) = true := by simp; omega
          go_wp2_with fail
          clear b4 b5
          go_loopw [10] (fun v wr => ∃ k : Nat, k ≤ kn ∧ v = .int .i64 k ∧ Kept (fun _ => False) wj wr) (fun v _ => kn - (intOf v).toNat)
          case atStart => exact ⟨0, Nat.zero_le _, rfl, Kept.refl _ _⟩
          case round =>
            obtain ⟨k, hk, rfl, hkk⟩ := hrel
            obtain ⟨wk, hwk⟩ : ∃ wk, wk = wr := ⟨_, rfl⟩
            subst hwk
            have HKV5 := Lib.hid hkk
            have HD5 := Lib.hid (HD4.out.kept hkk)
            clear hkk
            by_cases hkn2 : k < kn
            · have b4 : decide (k < kn) = true := by simp; omega
              go_upto_region 15 with fail
              clear b4
              have p1 : wk.cell? ⟨pb, 1, none⟩ = some (.int .i64 xa) := HD5.out.c.pb.c 1
              have p2 : wk.cell? ⟨pb, 2, none⟩ = some (.int .i64 xb) := HD5.out.c.pb.c 2
              have hw1 : IntKind.i64.wrap ((t.length : Int) + 1) = (t.length : Int) + 1 := IntWalk.i64_in _ ⟨by omega, by omega⟩
              go_cut [11] from 54 to 66 (fun v wx => ∃ (cb : Nat) (xs : List Int), v = .slice (some ⟨cb, 0, none⟩) 3 3 ∧ Nums wx (some ⟨cb, 0, none⟩) 3 xs ∧ Kept (fun _ => False) wk wx)
              case first =>
                go_region_held3 (fun (w' : World) => w'.cell? ⟨pb, 1, none⟩ = some (.int .i64 xa) ∧ w'.cell? ⟨pb, 2, none⟩ = some (.int .i64 xb)) (go_keep)
                  ((go_at_call 33; refine (within_any _ ((t.length : Int) + 1) (by omega) (by omega) _).mono ?_; rintro e w' ⟨x, hx, rfl, hw⟩; have hw2 := hw.symm; subst hw2))
                all_goals
                  go_wp2_with fail
                  go_meet
                  exact ⟨_, [(x : Int), xb, (t.length : Int)], rfl, nums_new _ [(x : Int), xb, (t.length : Int)] 3, by first | exact (Kept.refl (fun _ => False) wk).drew.alloc _ | exact ((Kept.refl (fun _ => False) wk).alloc _).drew⟩
              case rest =>
                obtain ⟨cb, xs, rfl, hN, hkc⟩ := hcut
                obtain ⟨wb, hwb⟩ : ∃ wb, wb = wc := ⟨_, rfl⟩
                subst hwb
                have HN6 := Lib.hid hN
                have HKV6 := Lib.hid hkc
                have HD6 := Lib.hid (HD5.out.kept hkc)
                clear hN hkc p1 p2 hw1
                go_wp2_with fail
                go_loopw [12] (fun v wr => ∃ q : Nat, q ≤ 3 ∧ v = .int .i64 q ∧ Kept (fun _ => False) wb wr) (fun v _ => 3 - (intOf v).toNat)
                case atStart => exact ⟨0, Nat.zero_le _, rfl, Kept.refl _ _⟩
                case round =>
                  obtain ⟨q, hq, rfl, hkq⟩ := hrel
                  obtain ⟨wq, hwq⟩ : ∃ wq, wq = wr := ⟨_, rfl⟩
                  subst hwq
                  have HKV7 := Lib.hid hkq
                  have HD7 := Lib.hid (HD6.out.kept hkq)
                  have HN7 := Lib.hid (HN6.out.kept hkq (fun _ _ => id))
                  clear hkq
                  by_cases hq3 : q < 3
                  · have b7 : decide (q < 3) = true := by simp; omega
                    have b8 : decide ((q : Int) < 3) = true := by simp; omega
                    go_upto_region 19 with fail
                    clear b7 b8
                    obtain ⟨xad, xk0, exa, _, cX⟩ := HN7.out.cell hq3
                    injection exa with exa
                    subst exa
                    rw [addr_add, Nat.zero_add] at cX
                    obtain ⟨kad, key, rfl, hkey, cK⟩ := HD7.out.c.keys.cell hkn2
                    have HKEY : Hid (KeyO2 key) := HOK.out key (List.mem_of_getElem? hkey)
                    obtain ⟨⟨lo, hi', ln⟩, hr⟩ : ∃ r, rl[j]? = some r := ⟨_, List.getElem?_eq_getElem (by rw [HD7.out.rngs.1]; exact hj15)⟩
                    obtain ⟨_, erb, cR0, cR1, cR2⟩ := HD7.out.rngs.2 j _ hr
                    injection erb with erb
                    injection erb with erb
                    subst erb
                    simp only at cR0 cR1 cR2
                    clear hr hkey
                    have hq0 : (0 : Int) ≤ (q : Int) := by omega
                    have hq3i : (q : Int) < 3 := by omega
                    have hj0 : (0 : Int) ≤ (j : Int) := by omega
                    have hj15i : (j : Int) < 15 := by omega
                    have hs9 : s.size ≤ 140737488351232 := by omega
                    rw [Nat.mul_comm 3 j] at cR0 cR1 cR2
                    have HKS : Hid (∀ W, Kept (fun _ => False) wq W → W.cell? ⟨rb, j * 3, none⟩ = some (.int .i64 lo) ∧ W.cell? ⟨rb, j * 3 + 1, none⟩ = some (.int .i64 hi') ∧ W.cell? ⟨rb, j * 3 + 2, none⟩ = some (.bool ln) ∧ W.cell? (kad.add k) = some (.int .i64 key) ∧ W.cell? ⟨cb, q, none⟩ = some (.int .i64 xk0)) := fun W h => ⟨cell_kept h cR0 id, cell_kept h cR1 id, cell_kept h cR2 id, cell_kept h cK id, cell_kept h cX id⟩
                    clear cR0 cR1 cR2 cK cX
                    have hTd : Tabs2 wq.drew := ⟨HD7.out.c.tabs.t, HD7.out.c.tabs.m⟩
                    have hTa : Tabs2 (wq.alloc zeroC).drew := HD7.out.c.tabs.kept ((Kept.refl (fun _ => False) wq).alloc zeroC).drew
                    have KA := HKS.out _ (Kept.refl (fun _ => False) wq).drew
                    have KB := HKS.out _ ((Kept.refl (fun _ => False) wq).alloc zeroC).drew
                    go_cut [13, 14] from 72 to 87 (fun s13 s14 wx => ∃ (g : Nat) (a d : Int) (p : ByteArray) (x : Int) (tk : ByteArray) (l : Bool) (E : Int), s13 = .pointer (some ⟨g, 0, none⟩) ∧ s14 = .int .i64 E ∧ ToldC s lo hi' ln key xk0 a d p x tk l E ∧ wq.heap.size ≤ g ∧ wx.heap[g]? = some (chgO a d p x tk l) ∧ Kept (fun _ => False) wq wx)
                    case first =>
                      go_region_held3 (fun (w' : World) => w'.cell? ⟨rb, j * 3, none⟩ = some (.int .i64 lo) ∧ w'.cell? ⟨rb, j * 3 + 1, none⟩ = some (.int .i64 hi') ∧ w'.cell? ⟨rb, j * 3 + 2, none⟩ = some (.bool ln) ∧ w'.cell? (kad.add k) = some (.int .i64 key) ∧ w'.cell? ⟨cb, q, none⟩ = some (.int .i64 xk0))
                        (first | with_reducible exact KC | with_reducible exact KB | with_reducible exact KA | with_reducible exact HKS.out _ (HK8.out.alloc _) | with_reducible exact HKS.out _ (HKZ.out _ _ _ _ _ _))
                        (first
                          | (go_at_call 20; refine (HKEY.out s lo hi' ln xk0 _ hs9 hTd).mono ?_; rintro e w8 ⟨⟨a, d, p, x, tk, l, E, rfl, htold⟩, hk8⟩; have HTD := Lib.hid htold; have HK8 : Hid (Kept (fun _ => False) wq w8) := (Kept.refl (fun _ => False) wq).drew.trans hk8; have KC := HKS.out _ HK8.out; clear htold hk8)
                          | (go_at_call 20; refine (HKEY.out s lo hi' ln xk0 _ hs9 hTa).mono ?_; rintro e w8 ⟨⟨a, d, p, x, tk, l, E, rfl, htold⟩, hk8⟩; have HTD := Lib.hid htold; have HK8 : Hid (Kept (fun _ => False) wq w8) := ((Kept.refl (fun _ => False) wq).alloc zeroC).drew.trans hk8; have KC := HKS.out _ HK8.out; have h8 : w8.heap[wq.heap.size]? = some zeroC := (hk8.block _ (by simp) id).trans (heap_alloc_new wq _); have H8 := Lib.hid h8; have HKZ : Hid (∀ u0 u1 u2 u3 u4 u5, Kept (fun _ => False) wq ((((((w8.setCell ⟨wq.heap.size, 0, none⟩ u0).setCell ⟨wq.heap.size, 1, none⟩ u1).setCell ⟨wq.heap.size, 2, none⟩ u2).setCell ⟨wq.heap.size, 3, none⟩ u3).setCell ⟨wq.heap.size, 4, none⟩ u4).setCell ⟨wq.heap.size, 5, none⟩ u5)) := (fun u0 u1 u2 u3 u4 u5 => HK8.out.fresh (Kept.six (Kept.refl (fun q => q = wq.heap.size) w8) rfl _ _ _ _ _ _) (fun b hb e => by omega)); obtain ⟨⟨d0, d1, d2, d3, d4, d5⟩, e0, e1, e2, e3, e4, e5⟩ := chg_facts h8; clear htold hk8 h8))
                      · go_wp2_with fail
                        go_meet
                        exact ⟨w8.heap.size, a, d, p, x, tk, l, E, rfl, rfl, HTD.out, HK8.out.size, heap_alloc_new w8 _, HK8.out.alloc _⟩
                      · go_wp2_with fail
                        go_meet
                        exact ⟨wq.heap.size, a, d, p, x, tk, l, E, rfl, rfl, HTD.out, Nat.le_refl _, chg_six H8.out _ _ _ _ _ _, HKZ.out _ _ _ _ _ _⟩
                    case rest =>
                      obtain ⟨g, a, d, p, x, tk, l, E, rfl, rfl, htold, hg, hgb, hk9⟩ := hcut
                      have HTD := Lib.hid htold
                      have hkz := hk9.alloc zeroC
                      have HZB0 : Hid ((wc.alloc zeroC).heap[wc.heap.size]? = some zeroC) := heap_alloc_new wc _
                      have HGB0 : Hid ((wc.alloc zeroC).heap[g]? = some (chgO a d p x tk l)) := (heap_alloc_old wc zeroC (heap_lt hgb)).trans hgb
                      have HGZ : Hid (g < wc.heap.size) := heap_lt hgb
                      have HKQ0 := Lib.hid hkz
                      have HQZ : Hid (wq.heap.size ≤ wc.heap.size) := hk9.size
                      clear htold hgb hk9 hkz hg KA KB hTd hTa
                      go_upto_region 21 with fail
                      generalize wc.alloc zeroC = wz at *
                      generalize wc.heap.size = zb at *
                      have HZB := Lib.hid HZB0.out
                      have HGZ' : Hid (g ≠ zb) := by have := HGZ.out; show g ≠ zb; omega
                      have HZQ : Hid (∀ b, b < wq.heap.size → b = zb → False) := by have := HQZ.out; show ∀ b, _; intro b h1 h2; omega
                      have HGB := Lib.hid HGB0.out
                      have HKQ := Lib.hid HKQ0.out
                      clear HZB0 HGB0 HKQ0
                      have cMay := rmay_any s wz hs9 (HD7.out.kept HKQ.out).c.tabs.t
                      by_cases hgood : GoodC s lo hi' ln key xk0
                      · have hRT := HTD.out.1 hgood
                        obtain ⟨hm, hr1, hk1', hn1, hn2⟩ := hgood
                        rw [hm] at cMay
                        rw [HT2.out] at hr1 hn2
                        have HNB := Lib.hid (show 0 ≤ xk0 ∧ xk0 ≤ (t.length : Int) from ⟨hn1, hn2⟩)
                        have HRB := Lib.hid hr1
                        have HKB := Lib.hid hk1'
                        have HRT := Lib.hid hRT
                        clear hRT hm hr1 hk1' hn1 hn2
                        go_wp2_with fail
                        refine cMay.mono ?_
                        rintro e w10 ⟨rfl, hk10⟩
                        have HZ10 := Lib.hid hk10
                        obtain ⟨r0, r1, r2, r3, r4⟩ := HKS.out _ (HKQ.out.trans hk10)
                        clear hk10 cMay
                        go_wp2_with fail
                        refine (rrange_t (some ⟨tb, 0, none⟩) t.length cap t lo hi' ln _ (HD7.out.kept (HKQ.out.trans HZ10.out)).rn (by have := HTl.out; omega) HRB.out).mono ?_
                        rintro e w11 ⟨rfl, hk11⟩
                        have HZ11 := Lib.hid (HZ10.out.trans hk11)
                        clear r0 r1 r2 r3 r4
                        obtain ⟨r0, r1, r2, r3, r4⟩ := HKS.out _ (HKQ.out.trans HZ11.out)
                        clear hk11
                        go_wp2_with fail
                        refine (rkey_t key _ HKB.out).mono ?_
                        rintro e w12 ⟨rfl, hk12⟩
                        have HZ12 := Lib.hid (HZ11.out.trans hk12)
                        clear r0 r1 r2 r3 r4
                        obtain ⟨r0, r1, r2, r3, r4⟩ := HKS.out _ (HKQ.out.trans HZ12.out)
                        clear hk12
                        go_wp2_with fail
                        refine (znum_t HNB.out _).mono ?_
                        rintro e w' ⟨rfl, hw⟩
                        have hw2 := hw.symm
                        subst hw2
                        go_upto_region 22 with fail
                        have HZW : Hid (Kept (fun _ => False) wz w12) := HZ12.out
                        clear r0 r1 r2 r3 r4
                        have hTw : Tabs w12.drew := (HD7.out.kept (HKQ.out.trans HZW.out)).c.tabs.t
                        have KA := HKS.out _ (HKQ.out.trans HZW.out).drew
                        have HGW := Lib.hid ((HZW.out.block g (heap_lt HGB.out) id).trans HGB.out)
                        have HZW2 := Lib.hid ((HZW.out.block zb (heap_lt HZB.out) id).trans HZB.out)
                        go_cut [15] from 115 to 131 (fun s15 wx => ∃ (B ra rd : Int) (rp : ByteArray) (rx : Int) (rt : ByteArray) (rl : Bool), s15 = .int .i64 B ∧ E = B ∧ ((B = 0 ∧ ra = a ∧ rd = d ∧ rp = p ∧ rx = x ∧ rt = tk ∧ rl = l) ∨ ((B != 0) = true ∧ a = 0 ∧ d = 0 ∧ p = ⟨#[]⟩ ∧ x = 0 ∧ tk = ⟨#[]⟩ ∧ l = false)) ∧ wx.heap[zb]? = some (chgO ra rd rp rx rt rl) ∧ wx.heap[g]? = some (chgO a d p x tk l) ∧ Kept (fun _ => False) wq wx)
                        case first =>
                          go_region_held3 (fun (w' : World) => w'.cell? ⟨rb, j * 3, none⟩ = some (.int .i64 lo) ∧ w'.cell? ⟨rb, j * 3 + 1, none⟩ = some (.int .i64 hi') ∧ w'.cell? ⟨rb, j * 3 + 2, none⟩ = some (.bool ln) ∧ w'.cell? (kad.add k) = some (.int .i64 key) ∧ w'.cell? ⟨cb, q, none⟩ = some (.int .i64 xk0))
                            (first | with_reducible exact KC | with_reducible exact KA | with_reducible exact HKS.out _ (HKZ.out _ _ _ _ _ _))
                            ((go_at_call 36; refine (HRT.out _ hTw).mono ?_; rintro e w13 ⟨⟨B, ra, rd, rp, rx, rt, rl, rfl, heb, hcs⟩, hk13⟩; have HEB := Lib.hid heb; have HCS := Lib.hid hcs; have HK13 : Hid (Kept (fun _ => False) wq w13) := (HKQ.out.trans HZW.out).drew.trans hk13; have KC := HKS.out _ HK13.out; have h8 : w13.heap[zb]? = some zeroC := (hk13.block zb (heap_lt HZW2.out) id).trans HZW2.out; have h9 : w13.heap[g]? = some (chgO a d p x tk l) := (hk13.block g (heap_lt HGW.out) id).trans HGW.out; have H8 := Lib.hid h8; have H9 := Lib.hid h9; have HKZ : Hid (∀ u0 u1 u2 u3 u4 u5, Kept (fun _ => False) wq ((((((w13.setCell ⟨zb, 0, none⟩ u0).setCell ⟨zb, 1, none⟩ u1).setCell ⟨zb, 2, none⟩ u2).setCell ⟨zb, 3, none⟩ u3).setCell ⟨zb, 4, none⟩ u4).setCell ⟨zb, 5, none⟩ u5)) := (fun u0 u1 u2 u3 u4 u5 => HK13.out.fresh (Kept.six (Kept.refl (fun q => q = zb) w13) rfl _ _ _ _ _ _) (fun b hb e => HZQ.out b hb e)); obtain ⟨⟨d0, d1, d2, d3, d4, d5⟩, e0, e1, e2, e3, e4, e5⟩ := chg_facts h8; clear heb hcs hk13 h8 h9))
                          go_wp2_with fail
                          go_meet
                          exact ⟨B, ra, rd, rp, rx, rt, rl, rfl, HEB.out, HCS.out, chg_six H8.out _ _ _ _ _ _, (heap_far HGZ'.out _).trans ((heap_far HGZ'.out _).trans ((heap_far HGZ'.out _).trans ((heap_far HGZ'.out _).trans ((heap_far HGZ'.out _).trans ((heap_far HGZ'.out _).trans H9.out))))), HKZ.out _ _ _ _ _ _⟩
                        case rest =>
                          obtain ⟨B, ra, rd, rp, rx, rt, rl, rfl, rfl, hcs, hz9, hg9, hk9⟩ := hcut
                          clear KA hTw
                          obtain ⟨⟨y0, y1, y2, y3, y4, y5⟩, _⟩ := chg_facts hg9
                          obtain ⟨⟨z0, z1, z2, z3, z4, z5⟩, k0, k1, k2, k3, k4, k5⟩ := chg_facts hz9
                          have HK9 := Lib.hid hk9
                          have hgz1 : ¬ g = zb := HGZ'.out
                          have hgz2 : ¬ zb = g := fun e => HGZ'.out e.symm
                          clear hk9 hz9 hg9
                          rcases hcs with ⟨rfl, rfl, rfl, rfl, rfl, rfl, rfl⟩ | ⟨hb0, rfl, rfl, rfl, rfl, rfl, rfl⟩
                          · go_wp2_with (go_at_call 21; refine (lnum_any _ _).mono ?_; rintro e w' ⟨rfl, hw⟩; have hw2 := hw.symm; subst hw2)
                            exact ⟨⟨q + 1, by omega, by go_num, HKV7.out.trans HK9.out⟩, by simp [intOf]; omega⟩
                          · go_wp2_with (go_at_call 21; refine (lnum_any _ _).mono ?_; rintro e w' ⟨rfl, hw⟩; have hw2 := hw.symm; subst hw2)
                            exact ⟨⟨q + 1, by omega, by go_num, HKV7.out.trans (HK9.out.fresh (Kept.six (Kept.refl (fun q => q = zb) wc) rfl _ _ _ _ _ _) (fun b hb e => HZQ.out b hb e))⟩, by simp [intOf]; omega⟩
                      · obtain ⟨rfl, rfl, rfl, rfl, rfl, rfl, rfl⟩ := HTD.out.2 hgood
                        have hbad : mayB s = false ∨ (mayB s = true ∧ ¬ RngI t lo hi' ln) ∨ (mayB s = true ∧ RngI t lo hi' ln ∧ key ∉ opKeys) ∨ (mayB s = true ∧ RngI t lo hi' ln ∧ key ∈ opKeys ∧ ¬ (0 ≤ xk0 ∧ xk0 ≤ (t.length : Int))) := by
                          have hg' : ¬ (mayB s = true ∧ RngI t lo hi' ln ∧ key ∈ opKeys ∧ 0 ≤ xk0 ∧ xk0 ≤ (t.length : Int)) := by
                            intro h
                            apply hgood
                            unfold GoodC
                            rw [HT2.out]
                            exact h
                          by_cases h1 : mayB s = true
                          · by_cases h2 : RngI t lo hi' ln
                            · by_cases h3 : key ∈ opKeys
                              · exact .inr (.inr (.inr ⟨h1, h2, h3, fun h => hg' ⟨h1, h2, h3, h⟩⟩))
                              · exact .inr (.inr (.inl ⟨h1, h2, h3⟩))
                            · exact .inr (.inl ⟨h1, h2⟩)
                          · exact .inl (by simpa using h1)
                        clear hgood HTD
                        rcases hbad with hm | ⟨hm, hr1⟩ | ⟨hm, hr1, hk1'⟩ | ⟨hm, hr1, hk1', hn1⟩
                        · rw [hm] at cMay
                          clear hm
                          go_wp2_with fail
                          refine cMay.mono ?_
                          rintro e w10 ⟨rfl, hk10⟩
                          have HZ10 := Lib.hid hk10
                          obtain ⟨r0, r1, r2, r3, r4⟩ := HKS.out _ (HKQ.out.trans hk10)
                          clear hk10 cMay
                          go_upto_region 25 with fail
                          clear r0 r1 r2 r3 r4
                          obtain ⟨⟨y0, y1, y2, y3, y4, y5⟩, _⟩ := chg_facts ((HZ10.out.block g (heap_lt HGB.out) id).trans HGB.out)
                          obtain ⟨⟨z0, z1, z2, z3, z4, z5⟩, _⟩ := chg_facts ((HZ10.out.block zb (heap_lt HZB.out) id).trans HZB.out)
                          go_wp2_with (go_at_call 21; refine (lnum_any _ _).mono ?_; rintro e w' ⟨rfl, hw⟩; have hw2 := hw.symm; subst hw2)
                          exact ⟨⟨q + 1, by omega, by go_num, HKV7.out.trans (HKQ.out.trans HZ10.out)⟩, by simp [intOf]; omega⟩
                        · rw [hm] at cMay
                          have HRB := Lib.hid hr1
                          clear hm hr1
                          go_wp2_with fail
                          refine cMay.mono ?_
                          rintro e w10 ⟨rfl, hk10⟩
                          have HZ10 := Lib.hid hk10
                          obtain ⟨r0, r1, r2, r3, r4⟩ := HKS.out _ (HKQ.out.trans hk10)
                          clear hk10 cMay
                          go_wp2_with fail
                          refine (rrange_f (some ⟨tb, 0, none⟩) t.length cap t lo hi' ln _ (HD7.out.kept (HKQ.out.trans HZ10.out)).rn (by have := HTl.out; omega) HRB.out).mono ?_
                          rintro e w11 ⟨rfl, hk11⟩
                          have HZ11 := Lib.hid (HZ10.out.trans hk11)
                          clear r0 r1 r2 r3 r4
                          obtain ⟨r0, r1, r2, r3, r4⟩ := HKS.out _ (HKQ.out.trans HZ11.out)
                          clear hk11
                          go_upto_region 25 with fail
                          clear r0 r1 r2 r3 r4
                          obtain ⟨⟨y0, y1, y2, y3, y4, y5⟩, _⟩ := chg_facts ((HZ11.out.block g (heap_lt HGB.out) id).trans HGB.out)
                          obtain ⟨⟨z0, z1, z2, z3, z4, z5⟩, _⟩ := chg_facts ((HZ11.out.block zb (heap_lt HZB.out) id).trans HZB.out)
                          go_wp2_with (go_at_call 21; refine (lnum_any _ _).mono ?_; rintro e w' ⟨rfl, hw⟩; have hw2 := hw.symm; subst hw2)
                          exact ⟨⟨q + 1, by omega, by go_num, HKV7.out.trans (HKQ.out.trans HZ11.out)⟩, by simp [intOf]; omega⟩
                        · rw [hm] at cMay
                          have HRB := Lib.hid hr1
                          have HKB := Lib.hid hk1'
                          clear hm hr1 hk1'
                          go_wp2_with fail
                          refine cMay.mono ?_
                          rintro e w10 ⟨rfl, hk10⟩
                          have HZ10 := Lib.hid hk10
                          obtain ⟨r0, r1, r2, r3, r4⟩ := HKS.out _ (HKQ.out.trans hk10)
                          clear hk10 cMay
                          go_wp2_with fail
                          refine (rrange_t (some ⟨tb, 0, none⟩) t.length cap t lo hi' ln _ (HD7.out.kept (HKQ.out.trans HZ10.out)).rn (by have := HTl.out; omega) HRB.out).mono ?_
                          rintro e w11 ⟨rfl, hk11⟩
                          have HZ11 := Lib.hid (HZ10.out.trans hk11)
                          clear r0 r1 r2 r3 r4
                          obtain ⟨r0, r1, r2, r3, r4⟩ := HKS.out _ (HKQ.out.trans HZ11.out)
                          clear hk11
                          go_wp2_with fail
                          refine (rkey_f key _ HKB.out).mono ?_
                          rintro e w12 ⟨rfl, hk12⟩
                          have HZ12 := Lib.hid (HZ11.out.trans hk12)
                          clear r0 r1 r2 r3 r4
                          obtain ⟨r0, r1, r2, r3, r4⟩ := HKS.out _ (HKQ.out.trans HZ12.out)
                          clear hk12
                          go_upto_region 25 with fail
                          clear r0 r1 r2 r3 r4
                          obtain ⟨⟨y0, y1, y2, y3, y4, y5⟩, _⟩ := chg_facts ((HZ12.out.block g (heap_lt HGB.out) id).trans HGB.out)
                          obtain ⟨⟨z0, z1, z2, z3, z4, z5⟩, _⟩ := chg_facts ((HZ12.out.block zb (heap_lt HZB.out) id).trans HZB.out)
                          go_wp2_with (go_at_call 21; refine (lnum_any _ _).mono ?_; rintro e w' ⟨rfl, hw⟩; have hw2 := hw.symm; subst hw2)
                          exact ⟨⟨q + 1, by omega, by go_num, HKV7.out.trans (HKQ.out.trans HZ12.out)⟩, by simp [intOf]; omega⟩
                        · rw [hm] at cMay
                          have HRB := Lib.hid hr1
                          have HKB := Lib.hid hk1'
                          have HNB := Lib.hid hn1
                          clear hm hr1 hk1' hn1
                          go_wp2_with fail
                          refine cMay.mono ?_
                          rintro e w10 ⟨rfl, hk10⟩
                          have HZ10 := Lib.hid hk10
                          obtain ⟨r0, r1, r2, r3, r4⟩ := HKS.out _ (HKQ.out.trans hk10)
                          clear hk10 cMay
                          go_wp2_with fail
                          refine (rrange_t (some ⟨tb, 0, none⟩) t.length cap t lo hi' ln _ (HD7.out.kept (HKQ.out.trans HZ10.out)).rn (by have := HTl.out; omega) HRB.out).mono ?_
                          rintro e w11 ⟨rfl, hk11⟩
                          have HZ11 := Lib.hid (HZ10.out.trans hk11)
                          clear r0 r1 r2 r3 r4
                          obtain ⟨r0, r1, r2, r3, r4⟩ := HKS.out _ (HKQ.out.trans HZ11.out)
                          clear hk11
                          go_wp2_with fail
                          refine (rkey_t key _ HKB.out).mono ?_
                          rintro e w12 ⟨rfl, hk12⟩
                          have HZ12 := Lib.hid (HZ11.out.trans hk12)
                          clear r0 r1 r2 r3 r4
                          obtain ⟨r0, r1, r2, r3, r4⟩ := HKS.out _ (HKQ.out.trans HZ12.out)
                          clear hk12
                          go_wp2_with fail
                          refine (znum_f HNB.out _).mono ?_
                          rintro e w' ⟨rfl, hw⟩
                          have hw2 := hw.symm
                          subst hw2
                          go_upto_region 25 with fail
                          clear r0 r1 r2 r3 r4
                          obtain ⟨⟨y0, y1, y2, y3, y4, y5⟩, _⟩ := chg_facts ((HZ12.out.block g (heap_lt HGB.out) id).trans HGB.out)
                          obtain ⟨⟨z0, z1, z2, z3, z4, z5⟩, _⟩ := chg_facts ((HZ12.out.block zb (heap_lt HZB.out) id).trans HZB.out)
                          go_wp2_with (go_at_call 21; refine (lnum_any _ _).mono ?_; rintro e w' ⟨rfl, hw⟩; have hw2 := hw.symm; subst hw2)
                          exact ⟨⟨q + 1, by omega, by go_num, HKV7.out.trans (HKQ.out.trans HZ12.out)⟩, by simp [intOf]; omega⟩
                  · obtain rfl : q = 3 := by omega
                    have b7 : decide ((3 : Int) < 3) = false := by decide
                    go_wp2_with fail
                    go_roundw
                    case rel => exact ⟨k + 1, by omega, by go_num, HKV5.out.trans (HKV6.out.trans HKV7.out)⟩
                    case measure => simp [intOf]; omega
            · have b4 : decide (k < kn) = false := by simp; omega
              go_wp2_with fail
              go_roundw
              case rel => exact ⟨j + 1, by omega, by go_num, HKV4.out.trans HKV5.out⟩
              case measure => simp [intOf]; omega
        · obtain rfl : j = 15 := by omega
          have b4 : decide ((15 : Int) < 15) = false := by decide
          go_wp2_with fail
          go_roundw
          case rel => exact ⟨i + 1, by omega, by omega, by go_num, HKW4.out⟩
          case measure => simp [intOf]; omega
    · have hlast : (i = n0 ∧ i < 3) ∨ (i < n0 ∧ i = 3) ∨ (i = n0 ∧ i = 3) := by omega
      have cW := chwakes_any wi HHi.out.tabs.t
      rcases hlast with ⟨h1, h2⟩ | ⟨h1, h2⟩ | ⟨h1, h2⟩
      case' inl | inr.inr => have b1 : decide (i < n0) = false := by simp; omega
      case' inr.inl =>
        have b1 : decide (i < n0) = true := by simp; omega
        have b2 : decide (i < 3) = false := by simp; omega
        have b3 : decide ((i : Int) < 3) = false := by simp; omega
      all_goals
        clear h1 h2
        go_wp2_with (go_at_call 26; refine cW.mono ?_; rintro e w9 ⟨rfl, hk9⟩)
        go_ret
        exact ⟨rfl, HKi.out.trans hk9⟩
theorem changes_lit (p : AskV) (keys : List Int) (w : World) (hp : AskOk w p) (hT : Tabs2 w) (hk : keys.length ≤ 100) (hok : ∀ key ∈ keys, KeyO2 key) :
    Calls Tryd.prog 15 #[.agg p.cells, .slice (some ⟨w.heap.size + 1, 0, none⟩) keys.length keys.length] ((w.alloc (.cells p.cells 28)).alloc (.cells (keys.map (Value.int .i64)).toArray 3)) fun e w' => e = .returned (.bool true) ∧ Kept (fun _ => False) w w' := by
  have hk1 : Kept (fun _ => False) w (w.alloc (.cells p.cells 28)) := (Kept.refl _ w).alloc _
  have hN := nums_new (w.alloc (.cells p.cells 28)) keys 3
  rw [show (w.alloc (.cells p.cells 28)).heap.size = w.heap.size + 1 by simp] at hN
  have hk2 : Kept (fun _ => False) w ((w.alloc (.cells p.cells 28)).alloc (.cells (keys.map (Value.int .i64)).toArray 3)) := hk1.alloc _
  exact (changes_any p _ keys.length keys.length keys _ (hp.kept hk2) hN hk (hT.kept hk2) hok).mono fun e w' h => ⟨h.1, hk2.trans h.2⟩
theorem ok_cons {key : Int} {keys : List Int} (h : KeyO2 key) (hs : ∀ k ∈ keys, KeyO2 k) : ∀ k ∈ key :: keys, KeyO2 k := fun k hk => by
  rcases List.mem_cons.1 hk with e | e
  · rw [e]; exact h
  · exact hs k e
theorem ok_nil : ∀ k ∈ ([] : List Int), KeyO2 k := fun k hk => by cases hk
theorem keyO2_r : KeyO2 62 := keyO2_s (.inl rfl)
theorem keyO2_l : KeyO2 60 := keyO2_s (.inr rfl)
end Go.Proofs.YtkeojjojilfklaaDoor
