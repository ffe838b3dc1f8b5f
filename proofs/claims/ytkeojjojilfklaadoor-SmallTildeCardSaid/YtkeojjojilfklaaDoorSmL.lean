/-
  THE LAWS' COMMON WALK (small): whatever an ask holds, by keys by which the program tells what the reference does.
-/
import Derived.Test.YtkeojjojilfklaaDoorSmD
import Derived.Test.YtkeojjojilfklaaDoorAo3
import Derived.Deep.RegionHeld3
import Derived.Deep.CutRange
set_option linter.unusedVariables false
namespace Go.Proofs.YtkeojjojilfklaaDoor
open Go Go.RowKit

/-- What a law's loops hold of every world. -/
structure HeldC (w : World) (pb : Nat) (p : AskV) (K : Option Addr) (kn : Nat) (keys : List Int) : Prop where
  pb : PB w pb p
  ask : AskOk w p
  keys : Nums w K kn keys
  tabs : Tabs w
theorem HeldC.kept {w w' : World} {pb : Nat} {p : AskV} {K : Option Addr} {kn : Nat} {keys : List Int} (h : HeldC w pb p K kn keys) (hk : Kept (fun _ => False) w w') : HeldC w' pb p K kn keys :=
  ⟨h.pb.kept hk id, h.ask.kept hk, h.keys.kept hk (fun _ _ => id), h.tabs.kept hk id id⟩
structure HeldD (w : World) (pb : Nat) (p : AskV) (K : Option Addr) (kn : Nat) (keys : List Int) (tb : Nat) (t : List Int) (R : Option Addr) (m : Nat) (l : List Int) : Prop where
  c : HeldC w pb p K kn keys
  rn : Rn w (some ⟨tb, 0, none⟩) t.length t
  ats : Nums w R m l
theorem HeldD.kept {w w' : World} {pb : Nat} {p : AskV} {K : Option Addr} {kn : Nat} {keys : List Int} {tb : Nat} {t : List Int} {R : Option Addr} {m : Nat} {l : List Int} (h : HeldD w pb p K kn keys tb t R m l) (hk : Kept (fun _ => False) w w') : HeldD w' pb p K kn keys tb t R m l :=
  ⟨h.c.kept hk, h.rn.kept hk (fun _ _ => id), h.ats.kept hk (fun _ _ => id)⟩
theorem four_at (w : World) (a b c d : Int) (i : Nat) (h : i < 4) : ∃ x, (w.alloc (.cells #[.int .i64 a, .int .i64 b, .int .i64 c, .int .i64 d] 3)).cell? ⟨w.heap.size, i, none⟩ = some (.int .i64 x) := by
  rw [cell_of_row _ _ _ _ _ _ (heap_alloc_new w _)]
  match i, h with
  | 0, _ => exact ⟨_, rfl⟩
  | 1, _ => exact ⟨_, rfl⟩
  | 2, _ => exact ⟨_, rfl⟩
  | 3, _ => exact ⟨_, rfl⟩
/-- An operation of a region that isn't wanted. -/
theorem take_no {P : Program} {ops : Array Oper} {Q : Exit → Act → World → Prop} {md : Region.Mode} {S : World → Prop} {i d : Nat} {oi : Oper} {fuel : Nat} {listed : Array Bool} {a : Act} {w : World} (hi : ops[i]? = some oi) (hd : oi.dst = some d)
    (hs : Region.noSelect ops = true) (hf : Region.free md ops listed i = true) (hr : (Region.ready md ops listed).contains i = true)
    (hQ : ∀ c a w, Q (.panic c) (a.put (some d) undef) w → Q (.panic c) a w) (hw : Region.wanted oi (yielded ops a.tmps) = false) (hS : S w)
    (h : wpAnyH P md ops Q S fuel (listed.setIfInBounds i true) (a.put (some d) undef) w) : wpAnyH P md ops Q S (fuel + 1) listed a w :=
  wpAnyH_take hi hs hf hr (by rw [hd]; exact hQ) (Or.inr ⟨hw, rfl⟩) hS (by rw [hd]; exact h)
theorem take_yes {P : Program} {ops : Array Oper} {Q : Exit → Act → World → Prop} {md : Region.Mode} {S : World → Prop} {i d : Nat} {v : Value} {oi : Oper} {fuel : Nat} {listed : Array Bool} {a : Act} {w : World} (hi : ops[i]? = some oi) (hd : oi.dst = some d)
    (hs : Region.noSelect ops = true) (hf : Region.free md ops listed i = true) (hr : (Region.ready md ops listed).contains i = true)
    (hQ : ∀ c a w, Q (.panic c) (a.put (some d) v) w → Q (.panic c) a w) (hy : YieldsIf P ops S oi v a) (hS : S w)
    (h : wpAnyH P md ops Q S fuel (listed.setIfInBounds i true) (a.put (some d) v) w) : wpAnyH P md ops Q S (fuel + 1) listed a w :=
  wpAnyH_take hi hs hf hr (by rw [hd]; exact hQ) hy hS (by rw [hd]; exact h)
theorem bool_ext {a b : Bool} (h : a = true ↔ b = true) : a = b := by
  cases a with
  | true => exact (h.1 rfl).symm
  | false =>
    cases b with
    | true => exact h.2 rfl
    | false => rfl
theorem tmod_small (x : Int) (m : Nat) (h : 0 ≤ x) (hm : 0 < m) : ∃ r : Nat, x.tmod m = (r : Int) ∧ r < m := by
  refine ⟨(x % m).toNat, ?_, ?_⟩
  · rw [Int.tmod_eq_emod_of_nonneg h]
    have := Int.emod_nonneg x (show (m : Int) ≠ 0 by omega)
    omega
  · have := Int.emod_lt_of_pos x (show (0 : Int) < m by omega)
    have := Int.emod_nonneg x (show (m : Int) ≠ 0 by omega)
    omega
set_option maxRecDepth 100000 in
set_option maxHeartbeats 4000000 in
theorem smalls_any (p : AskV) (K : Option Addr) (kn kc : Nat) (keys : List Int) (w : World) (hp : AskOk w p) (hK : Nums w K kn keys) (hkn : kn ≤ 100) (hT : Tabs w) (hok : ∀ key ∈ keys, KeyS key) :
    Calls Tryd.prog 27 #[.agg p.cells, .slice K kn kc] w fun e w' => e = .returned (.bool true) ∧ Kept (fun _ => False) w w' := by
  have hK0 : Hid (Kept (fun _ => False) w (w.alloc (.cells p.cells 28))) := (Kept.refl _ w).alloc _
  have hH0 : Hid (HeldC (w.alloc (.cells p.cells 28)) w.heap.size p K kn keys) :=
    ⟨heap_alloc_new w _, hp.kept hK0.out, hK.kept hK0.out (fun _ _ => id), hT.kept hK0.out id id⟩
  have cH := heavy10_any p (w.alloc (.cells p.cells 28)) hH0.out.ask
  have hxa := hp.xa
  have cRG := fun R n c w hn => offsets_any p R n c w hxa hn
  have HCRG := Lib.hid cRG
  have HOK := Lib.hid hok
  clear hp hK hT cRG hok hxa
  obtain ⟨A, n0, c0, ss, xa, xb, xr, xc, xk, xn, xq⟩ := p
  unfold AskV.cells at *
  simp only at *
  go_enter Tryd.func27, Tryd.ntmps27
  go_wp2_with (go_at_call 16; refine cH.mono ?_; rintro e w1 ⟨⟨hv, rfl, hsm⟩, hk1⟩; have HS := Lib.hid hsm; have HK1 := Lib.hid (hK0.out.trans hk1); have HH := Lib.hid (hH0.out.kept hk1); clear hsm hk1 hH0 hK0 cH)
  · exact bodyPost_ret (results_tmp rfl _ _ _) rfl ⟨rfl, HK1.out⟩
  have hv0 : hv = false := by assumption
  subst hv0
  have hss : ∀ s ∈ ss, s.size ≤ 6000 := HS.out rfl
  have HSS := Lib.hid hss
  clear hss HS
  generalize hpb : w.heap.size = pb at HH ⊢
  have HPB := Lib.hid hpb
  clear hpb
  go_loopw [5] (fun v wr => ∃ i : Nat, i ≤ n0 ∧ i ≤ 3 ∧ v = .int .i64 i ∧ Kept (fun _ => False) w1 wr) (fun v _ => n0 - (intOf v).toNat)
  case atStart => exact ⟨0, Nat.zero_le _, Nat.zero_le _, rfl, Kept.refl _ _⟩
  case round =>
    obtain ⟨i, hi, hi4, rfl, hki⟩ := hrel
    obtain ⟨wi, hwi⟩ : ∃ wi, wi = wr := ⟨_, rfl⟩
    subst hwi
    have HKi := Lib.hid (HK1.out.trans hki)
    have HHi := Lib.hid (HH.out.kept hki)
    have HKW := Lib.hid hki
    clear hki
    have p0 : wi.cell? ⟨pb, 0, none⟩ = some (.slice A n0 c0) := HHi.out.pb.c 0
    by_cases hgo : i < n0 ∧ i < 3
    · obtain ⟨g1, g2⟩ := hgo
      obtain ⟨ad, s, rfl, hs, hsc, _⟩ := HHi.out.ask.ss.cell g1
      have hsz : s.size ≤ 6000 := HSS.out s (List.mem_of_getElem? hs)
      have hl := rs_len s
      clear hs
      obtain ⟨cap, w2, hcap, hcv, hk2, hlt2, hR⟩ := conv_rs s wi (by omega)
      generalize ht : rs s = t at *
      have HT2 := Lib.hid ht
      have HK2 := Lib.hid (HKi.out.trans hk2)
      have HKW2 := Lib.hid (HKW.out.trans hk2)
      have HH2 := Lib.hid (HHi.out.kept hk2)
      have HR := Lib.hid hR
      have q0 : w2.cell? ⟨pb, 0, none⟩ = some (.slice (some ad) n0 c0) := HH2.out.pb.c 0
      have q1 : w2.cell? ⟨pb, 1, none⟩ = some (.int .i64 xa) := HH2.out.pb.c 1
      have q2 : w2.cell? ⟨pb, 2, none⟩ = some (.int .i64 xb) := HH2.out.pb.c 2
      have q3 : w2.cell? ⟨pb, 3, none⟩ = some (.int .i64 xr) := HH2.out.pb.c 3
      have q4 : w2.cell? ⟨pb, 4, none⟩ = some (.int .i64 xc) := HH2.out.pb.c 4
      have q5 : w2.cell? ⟨pb, 5, none⟩ = some (.int .i64 xk) := HH2.out.pb.c 5
      have q6 : w2.cell? ⟨pb, 6, none⟩ = some (.int .i64 xn) := HH2.out.pb.c 6
      have q7 : w2.cell? ⟨pb, 7, none⟩ = some (.int .i64 xq) := HH2.out.pb.c 7
      clear hk2 hR ht hcap hlt2
      generalize hrb : wi.heap.size = tb at HR hcv
      clear hrb
      have cO := HCRG.out (some ⟨tb, 0, none⟩) t.length cap w2 (by omega)
      have b1 : decide (i < n0) = true := by simp; omega
      have b2 : decide (i < 3) = true := by simp; omega
      have b3 : decide ((i : Int) < 3) = true := by simp; omega
      go_wp2_with (go_at_call 49; refine cO.mono ?_; rintro e w3 ⟨hk3, R, m, mc, al, rfl, hal, hm15, _⟩; have HK3 := Lib.hid (HK2.out.trans hk3); have HKW3 := Lib.hid (HKW2.out.trans hk3); have HD3 : Hid (HeldD w3 pb _ K kn keys tb t R m al) := ⟨HH2.out.kept hk3, HR.out.kept hk3 (fun _ _ => id), hal⟩; clear hk3 hal q0 q1 q2 q3 q4 q5 q6 q7 cO hcv HK2 HH2 HR HKW2 p0 hsc)
      have HTl : Hid (t.length ≤ 6000) := by show _ ≤ _; omega
      go_loopw [9] (fun v wr => ∃ j : Nat, j ≤ m ∧ v = .int .i64 j ∧ Kept (fun _ => False) w3 wr) (fun v _ => m - (intOf v).toNat)
      case atStart => exact ⟨0, Nat.zero_le _, rfl, Kept.refl _ _⟩
      case round =>
        obtain ⟨j, hj, rfl, hkj⟩ := hrel
        obtain ⟨wj, hwj⟩ : ∃ wj, wj = wr := ⟨_, rfl⟩
        subst hwj
        have HKV4 := Lib.hid hkj
        have HD4 := Lib.hid (HD3.out.kept hkj)
        have HKW4 := Lib.hid (HKW3.out.trans hkj)
        clear hkj
        by_cases hjm : j < m
        · have b4 : decide (j < m) = true := by simp; omega
          go_wp2_with fail
          clear b4
          go_loopw [10] (fun v wr => ∃ k : Nat, k ≤ kn ∧ v = .int .i64 k ∧ Kept (fun _ => False) wj wr) (fun v _ => kn - (intOf v).toNat)
          case atStart => exact ⟨0, Nat.zero_le _, rfl, Kept.refl _ _⟩
          case round =>
            obtain ⟨k, hk, rfl, hkk⟩ := hrel
            obtain ⟨wk, hwk⟩ : ∃ wk, wk = wr := ⟨_, rfl⟩
            subst hwk
            have HKV5 := Lib.hid hkk
            have HD5 := Lib.hid (HD4.out.kept hkk)
            clear hkk
            by_cases hkn2 : k < kn
            · have b4 : decide (k < kn) = true := by simp; omega
              go_upto_region 15 with fail
              clear b4
              have p6 : wk.cell? ⟨pb, 6, none⟩ = some (.int .i64 xn) := HD5.out.c.pb.c 6
              obtain ⟨r3, hr3, hr3'⟩ := tmod_small (j : Int) 3 (by omega) (by omega)
              have hr3a : (j : Int).tmod 3 = (r3 : Int) := hr3
              have hw1 : IntKind.i64.wrap (2 + (r3 : Int)) = 2 + (r3 : Int) := IntWalk.i64_in _ ⟨by omega, by omega⟩
              have hw2 : IntKind.i64.wrap (r3 : Int) = (r3 : Int) := IntWalk.i64_in _ ⟨by omega, by omega⟩
              clear hr3
              go_upto_region 16 with fail
              have hN : Nums (wk.alloc (.cells ([1, 2 + (r3 : Int), xn].map (Value.int .i64)).toArray 3)) (some ⟨wk.heap.size, 0, none⟩) 3 [1, 2 + (r3 : Int), xn] := nums_new wk [1, 2 + (r3 : Int), xn] 3
              have hkc : Kept (fun _ => False) wk (wk.alloc (.cells ([1, 2 + (r3 : Int), xn].map (Value.int .i64)).toArray 3)) := (Kept.refl _ wk).alloc _
              simp only [List.map_cons, List.map_nil] at hN hkc
              have HN6 := Lib.hid hN
              have HKV6 := Lib.hid hkc
              have HD6 := Lib.hid (HD5.out.kept hkc)
              clear hN hkc p6 hr3a hw1 hw2 hr3'
              generalize hwb : wk.alloc (.cells #[.int .i64 1, .int .i64 (2 + (r3 : Int)), .int .i64 xn] 3) = wb at *
              clear hwb
              generalize wk.heap.size = cb at *
              generalize [1, 2 + (r3 : Int), xn] = xs at *
              go_wp2_with fail
              go_loopw [12] (fun v wr => ∃ q : Nat, q ≤ 3 ∧ v = .int .i64 q ∧ Kept (fun _ => False) wb wr) (fun v _ => 3 - (intOf v).toNat)
              case atStart => exact ⟨0, Nat.zero_le _, rfl, Kept.refl _ _⟩
              case round =>
                obtain ⟨q, hq, rfl, hkq⟩ := hrel
                obtain ⟨wq, hwq⟩ : ∃ wq, wq = wr := ⟨_, rfl⟩
                subst hwq
                have HKV7 := Lib.hid hkq
                have HD7 := Lib.hid (HD6.out.kept hkq)
                have HN7 := Lib.hid (HN6.out.kept hkq (fun _ _ => id))
                clear hkq
                by_cases hq3 : q < 3
                · have b7 : decide (q < 3) = true := by simp; omega
                  have b8 : decide ((q : Int) < 3) = true := by simp; omega
                  go_upto_region 19 with fail
                  clear b7 b8
                  have p7 : wq.cell? ⟨pb, 7, none⟩ = some (.int .i64 xq) := HD7.out.c.pb.c 7
                  obtain ⟨r4, hr4, hr4'⟩ := tmod_small ((j : Int) + (q : Int)) 4 (by omega) (by omega)
                  have hr4a : ((j : Int) + (q : Int)).tmod 4 = (r4 : Int) := hr4
                  have hw1 : IntKind.i64.wrap ((j : Int) + (q : Int)) = (j : Int) + (q : Int) := IntWalk.i64_in _ ⟨by omega, by omega⟩
                  have hw2 : IntKind.i64.wrap (r4 : Int) = (r4 : Int) := IntWalk.i64_in _ ⟨by omega, by omega⟩
                  obtain ⟨ty, hty⟩ := four_at wq 122 xq 8364 10 r4 hr4'
                  have hr40 : (0 : Int) ≤ (r4 : Int) := by omega
                  have hr44 : (r4 : Int) < 4 := by omega
                  clear hr4
                  go_upto_region 20 with fail
                  have hka := (Kept.refl (fun _ => False) wq).alloc (.cells #[.int .i64 122, .int .i64 xq, .int .i64 8364, .int .i64 10] 3)
                  have HKA7 := Lib.hid (HKV7.out.trans hka)
                  have HD8 := Lib.hid (HD7.out.kept hka)
                  have HN8 := Lib.hid (HN7.out.kept hka (fun _ _ => id))
                  clear p7 hr4a hw1 hw2 hty hr40 hr44 hr4' hka
                  generalize hwv : wq.alloc (.cells #[.int .i64 122, .int .i64 xq, .int .i64 8364, .int .i64 10] 3) = wv at *
                  clear hwv
                  obtain ⟨aad, av, rfl, _, cA⟩ := HD8.out.ats.cell hjm
                  obtain ⟨kad, key, rfl, hkey, cK⟩ := HD8.out.c.keys.cell hkn2
                  have HKEY : Hid (KeyS key) := HOK.out key (List.mem_of_getElem? hkey)
                  obtain ⟨xad, cv, exa, _, cX⟩ := HN8.out.cell hq3
                  injection exa with exa
                  subst exa
                  rw [addr_add, Nat.zero_add] at cX
                  clear hkey
                  have hq0 : (0 : Int) ≤ (q : Int) := by omega
                  have hq3i : (q : Int) < 3 := by omega
                  have hj0 : (0 : Int) ≤ (j : Int) := by omega
                  have hjmi : (j : Int) < (m : Int) := by omega
                  have hk0 : (0 : Int) ≤ (k : Int) := by omega
                  have hkni : (k : Int) < (kn : Int) := by omega
                  have hs9 : s.size ≤ 140737488351232 := by omega
                  have HKS : Hid (∀ W, Kept (fun _ => False) wv W → W.cell? (aad.add j) = some (.int .i64 av) ∧ W.cell? (kad.add k) = some (.int .i64 key) ∧ W.cell? ⟨cb, q, none⟩ = some (.int .i64 cv)) := fun W h => ⟨cell_kept h cA id, cell_kept h cK id, cell_kept h cX id⟩
                  clear cA cK cX
                  have hTd : Tabs wv.drew := HD8.out.c.tabs
                  have hTa : Tabs (wv.alloc zeroS).drew := HD8.out.c.tabs.kept ((Kept.refl (fun _ => False) wv).alloc zeroS).drew id id
                  have KA := HKS.out _ (Kept.refl (fun _ => False) wv).drew
                  have KB := HKS.out _ ((Kept.refl (fun _ => False) wv).alloc zeroS).drew
                  go_cut [14, 15] from 74 to 91 (fun s13 s14 wx => ∃ (g : Nat) (a d : Int) (p : ByteArray) (x : Int) (tk : ByteArray) (l : Bool) (E : Int), s13 = .pointer (some ⟨g, 0, none⟩) ∧ s14 = .int .i64 E ∧ ToldS s av key ty cv a d p x tk l E ∧ wv.heap.size ≤ g ∧ wx.heap[g]? = some (chgO a d p x tk l) ∧ Kept (fun _ => False) wv wx)
                  case first =>
                    go_region_held3 (fun (w' : World) => w'.cell? (aad.add j) = some (.int .i64 av) ∧ w'.cell? (kad.add k) = some (.int .i64 key) ∧ w'.cell? ⟨cb, q, none⟩ = some (.int .i64 cv))
                      (first | with_reducible exact KC | with_reducible exact KB | with_reducible exact KA | with_reducible exact HKS.out _ (HK8.out.alloc _) | with_reducible exact HKS.out _ (HKZ.out _ _ _ _ _ _))
                      (first
                        | (go_at_call 28; refine (HKEY.out s av ty cv _ hs9 hTd).mono ?_; rintro e w8 ⟨⟨a, d, p, x, tk, l, E, rfl, htold⟩, hk8⟩; have HTD := Lib.hid htold; have HK8 : Hid (Kept (fun _ => False) wv w8) := (Kept.refl (fun _ => False) wv).drew.trans hk8; have KC := HKS.out _ HK8.out; clear htold hk8)
                        | (go_at_call 28; refine (HKEY.out s av ty cv _ hs9 hTa).mono ?_; rintro e w8 ⟨⟨a, d, p, x, tk, l, E, rfl, htold⟩, hk8⟩; have HTD := Lib.hid htold; have HK8 : Hid (Kept (fun _ => False) wv w8) := ((Kept.refl (fun _ => False) wv).alloc zeroS).drew.trans hk8; have KC := HKS.out _ HK8.out; have h8 : w8.heap[wv.heap.size]? = some zeroS := (hk8.block _ (by simp) id).trans (heap_alloc_new wv _); have H8 := Lib.hid h8; have HKZ : Hid (∀ u0 u1 u2 u3 u4 u5, Kept (fun _ => False) wv ((((((w8.setCell ⟨wv.heap.size, 0, none⟩ u0).setCell ⟨wv.heap.size, 1, none⟩ u1).setCell ⟨wv.heap.size, 2, none⟩ u2).setCell ⟨wv.heap.size, 3, none⟩ u3).setCell ⟨wv.heap.size, 4, none⟩ u4).setCell ⟨wv.heap.size, 5, none⟩ u5)) := (fun u0 u1 u2 u3 u4 u5 => HK8.out.fresh (Kept.six (Kept.refl (fun q => q = wv.heap.size) w8) rfl _ _ _ _ _ _) (fun b hb e => by omega)); obtain ⟨⟨d0, d1, d2, d3, d4, d5⟩, e0, e1, e2, e3, e4, e5⟩ := chg_facts h8; clear htold hk8 h8))
                    · go_wp2_with fail
                      go_meet
                      exact ⟨w8.heap.size, a, d, p, x, tk, l, E, rfl, rfl, HTD.out, HK8.out.size, heap_alloc_new w8 _, HK8.out.alloc _⟩
                    · go_wp2_with fail
                      go_meet
                      exact ⟨wv.heap.size, a, d, p, x, tk, l, E, rfl, rfl, HTD.out, Nat.le_refl _, chg_six H8.out _ _ _ _ _ _, HKZ.out _ _ _ _ _ _⟩
                  case rest =>
                    obtain ⟨g, a, d, p, x, tk, l, E, rfl, rfl, htold, hg, hgb, hk9⟩ := hcut
                    have HTD := Lib.hid htold
                    have hkz := hk9.alloc zeroS
                    have HZB0 : Hid ((wc.alloc zeroS).heap[wc.heap.size]? = some zeroS) := heap_alloc_new wc _
                    have HGB0 : Hid ((wc.alloc zeroS).heap[g]? = some (chgO a d p x tk l)) := (heap_alloc_old wc zeroS (heap_lt hgb)).trans hgb
                    have HGZ : Hid (g < wc.heap.size) := heap_lt hgb
                    have HKQ0 := Lib.hid hkz
                    have HQZ : Hid (wv.heap.size ≤ wc.heap.size) := hk9.size
                    clear htold hgb hk9 hkz hg KA KB hTd hTa
                    go_upto_region 22 with fail
                    generalize wc.alloc zeroS = wz at *
                    generalize wc.heap.size = zb at *
                    have HZB := Lib.hid HZB0.out
                    have HGZ' : Hid (g ≠ zb) := by have := HGZ.out; show g ≠ zb; omega
                    have HZQ : Hid (∀ b, b < wv.heap.size → b = zb → False) := by have := HQZ.out; show ∀ b, _; intro b h1 h2; omega
                    have HGB := Lib.hid HGB0.out
                    have HKQ := Lib.hid HKQ0.out
                    clear HZB0 HGB0 HKQ0
                    obtain ⟨G, hG⟩ : ∃ G : Bool, G = true ↔ GoodS s av key ty cv := by
                      by_cases h : GoodS s av key ty cv
                      · exact ⟨true, fun _ => h, fun _ => rfl⟩
                      · exact ⟨false, fun h' => Bool.noConfusion h', fun h' => absurd h' h⟩
                    have HG := Lib.hid hG
                    have hTz : Tabs wz.drew := (HD8.out.kept HKQ.out).c.tabs
                    have KZ := HKS.out _ HKQ.out.drew
                    have HMay := Lib.hid (fun W hW => rmay_any s W hs9 hW)
                    clear hG
                    go_cut [111] from 61 to 141 (fun v wx => v = .bool G ∧ Kept (fun _ => False) wz wx)
                    case first =>
                      by_cases hm : mayB s = true
                      · obtain ⟨B, hB⟩ : ∃ B : Bool, B = true ↔ SmOk t.length av key ty cv := by
                          by_cases h : SmOk t.length av key ty cv
                          · exact ⟨true, fun _ => h, fun _ => rfl⟩
                          · exact ⟨false, fun h' => Bool.noConfusion h', fun h' => absurd h' h⟩
                        have HB := Lib.hid hB
                        have hGB : G = B := by
                          have h1 : G = true ↔ B = true := HG.out.trans (Iff.trans (by unfold GoodS; rw [HT2.out]; exact ⟨fun h => h.2, fun h => ⟨hm, h⟩⟩) hB.symm)
                          exact bool_ext h1
                        subst hGB
                        have cMay := HMay.out _ hTz
                        rw [hm] at cMay
                        clear hm hB
                        go_region_held3 (fun (w' : World) => w'.cell? (aad.add j) = some (.int .i64 av) ∧ w'.cell? (kad.add k) = some (.int .i64 key) ∧ w'.cell? ⟨cb, q, none⟩ = some (.int .i64 cv))
                          (first | with_reducible exact KE | with_reducible exact KC | with_reducible exact KZ)
                          (first
                            | (go_at_call 17; refine cMay.mono ?_; rintro e w10 ⟨rfl, hk10⟩; have HK10 : Hid (Kept (fun _ => False) wz w10) := (Kept.refl _ wz).drew.trans hk10; have KC := HKS.out _ (HKQ.out.trans HK10.out); clear hk10)
                            | (go_at_call 50; refine (rmays_any _ _ _ _ _ _ _ _ _ HB.out).mono ?_; rintro e w11 ⟨rfl, hk11⟩; have HK11 : Hid (Kept (fun _ => False) wz w11) := HK10.out.trans hk11; have KE := HKS.out _ (HKQ.out.trans HK11.out); clear hk11))
                        all_goals
                          go_wp2_with fail
                          go_meet
                          exact ⟨rfl, HK11.out⟩
                      · have hm' : mayB s = false := by simpa using hm
                        obtain rfl : G = false := bool_no HG.out fun h => hm h.1
                        have cMay := HMay.out _ hTz
                        rw [hm'] at cMay
                        clear hm hm'
                        refine wp_region_held_drew (S := fun _ => True) (by kernel_rfl) trivial (fun _ => ?_)
                        refine take_yes (i := 0) (d := 93) (v := .string s) rfl rfl (by kernel_rfl) (by kernel_rfl) (by kernel_rfl) (fun _ _ _ h => h) (Or.inl ⟨by rfl, fun w _ => by go_simp⟩) trivial ?_
                        simp only [Act.put, List.setIfInBounds_toArray, List.set_cons_zero, List.set_cons_succ]
                        refine wpAnyH_ready (rs := [1]) (by kernel_rfl) (by simp) ?_
                        refine AllReadyH.cons rfl (fun K hK => ?_) AllReadyH.nil
                        go_simp
                        go_at_call 17
                        refine cMay.mono ?_
                        rintro e w10 ⟨rfl, hk10⟩
                        have HK10 : Hid (Kept (fun _ => False) wz w10) := (Kept.refl _ wz).drew.trans hk10
                        clear hk10
                        refine hK.out _ _ trivial (fun _ => ?_)
                        clear hK K
                        try simp only [Act.put, List.setIfInBounds_toArray, List.set_cons_zero, List.set_cons_succ]
                        refine take_yes (i := 2) (d := 95) (v := .bool false) rfl rfl (by kernel_rfl) (by kernel_rfl) (by kernel_rfl) (fun _ _ _ h => h) (Or.inl ⟨by rfl, fun w _ => by go_simp⟩) trivial ?_
                        simp only [Act.put, List.setIfInBounds_toArray, List.set_cons_zero, List.set_cons_succ]
                        refine take_no (i := 3) (d := 96) rfl rfl (by kernel_rfl) (by kernel_rfl) (by kernel_rfl) (fun _ _ _ h => h) (by rfl) trivial ?_
                        simp only [Act.put, List.setIfInBounds_toArray, List.set_cons_zero, List.set_cons_succ]
                        refine take_no (i := 4) (d := 97) rfl rfl (by kernel_rfl) (by kernel_rfl) (by kernel_rfl) (fun _ _ _ h => h) (by rfl) trivial ?_
                        simp only [Act.put, List.setIfInBounds_toArray, List.set_cons_zero, List.set_cons_succ]
                        refine take_no (i := 5) (d := 98) rfl rfl (by kernel_rfl) (by kernel_rfl) (by kernel_rfl) (fun _ _ _ h => h) (by rfl) trivial ?_
                        simp only [Act.put, List.setIfInBounds_toArray, List.set_cons_zero, List.set_cons_succ]
                        refine take_no (i := 6) (d := 99) rfl rfl (by kernel_rfl) (by kernel_rfl) (by kernel_rfl) (fun _ _ _ h => h) (by rfl) trivial ?_
                        simp only [Act.put, List.setIfInBounds_toArray, List.set_cons_zero, List.set_cons_succ]
                        refine take_no (i := 7) (d := 100) rfl rfl (by kernel_rfl) (by kernel_rfl) (by kernel_rfl) (fun _ _ _ h => h) (by rfl) trivial ?_
                        simp only [Act.put, List.setIfInBounds_toArray, List.set_cons_zero, List.set_cons_succ]
                        refine take_no (i := 8) (d := 101) rfl rfl (by kernel_rfl) (by kernel_rfl) (by kernel_rfl) (fun _ _ _ h => h) (by rfl) trivial ?_
                        simp only [Act.put, List.setIfInBounds_toArray, List.set_cons_zero, List.set_cons_succ]
                        refine take_no (i := 9) (d := 102) rfl rfl (by kernel_rfl) (by kernel_rfl) (by kernel_rfl) (fun _ _ _ h => h) (by rfl) trivial ?_
                        simp only [Act.put, List.setIfInBounds_toArray, List.set_cons_zero, List.set_cons_succ]
                        refine take_no (i := 10) (d := 103) rfl rfl (by kernel_rfl) (by kernel_rfl) (by kernel_rfl) (fun _ _ _ h => h) (by rfl) trivial ?_
                        simp only [Act.put, List.setIfInBounds_toArray, List.set_cons_zero, List.set_cons_succ]
                        refine take_no (i := 11) (d := 104) rfl rfl (by kernel_rfl) (by kernel_rfl) (by kernel_rfl) (fun _ _ _ h => h) (by rfl) trivial ?_
                        simp only [Act.put, List.setIfInBounds_toArray, List.set_cons_zero, List.set_cons_succ]
                        refine take_no (i := 12) (d := 105) rfl rfl (by kernel_rfl) (by kernel_rfl) (by kernel_rfl) (fun _ _ _ h => h) (by rfl) trivial ?_
                        simp only [Act.put, List.setIfInBounds_toArray, List.set_cons_zero, List.set_cons_succ]
                        refine take_no (i := 13) (d := 106) rfl rfl (by kernel_rfl) (by kernel_rfl) (by kernel_rfl) (fun _ _ _ h => h) (by rfl) trivial ?_
                        simp only [Act.put, List.setIfInBounds_toArray, List.set_cons_zero, List.set_cons_succ]
                        refine take_no (i := 14) (d := 107) rfl rfl (by kernel_rfl) (by kernel_rfl) (by kernel_rfl) (fun _ _ _ h => h) (by rfl) trivial ?_
                        simp only [Act.put, List.setIfInBounds_toArray, List.set_cons_zero, List.set_cons_succ]
                        refine take_no (i := 15) (d := 108) rfl rfl (by kernel_rfl) (by kernel_rfl) (by kernel_rfl) (fun _ _ _ h => h) (by rfl) trivial ?_
                        simp only [Act.put, List.setIfInBounds_toArray, List.set_cons_zero, List.set_cons_succ]
                        refine take_no (i := 16) (d := 109) rfl rfl (by kernel_rfl) (by kernel_rfl) (by kernel_rfl) (fun _ _ _ h => h) (by rfl) trivial ?_
                        simp only [Act.put, List.setIfInBounds_toArray, List.set_cons_zero, List.set_cons_succ]
                        refine take_no (i := 17) (d := 110) rfl rfl (by kernel_rfl) (by kernel_rfl) (by kernel_rfl) (fun _ _ _ h => h) (by rfl) trivial ?_
                        simp only [Act.put, List.setIfInBounds_toArray, List.set_cons_zero, List.set_cons_succ]
                        refine take_yes (i := 18) (d := 111) (v := .bool false) rfl rfl (by kernel_rfl) (by kernel_rfl) (by kernel_rfl) (fun _ _ _ h => h) (Or.inl ⟨by rfl, fun w _ => by go_simp⟩) trivial ?_
                        simp only [Act.put, List.setIfInBounds_toArray, List.set_cons_zero, List.set_cons_succ]
                        refine wpAnyH_done (by kernel_rfl) ?_ _
                        all_goals
                          go_wp2_with fail
                          go_meet
                          exact ⟨rfl, HK10.out⟩
                    case rest =>
                      obtain ⟨rfl, hkw⟩ := hcut
                      obtain ⟨w12, hw12⟩ : ∃ w12, w12 = wc := ⟨_, rfl⟩
                      subst hw12
                      have HZW := Lib.hid hkw
                      have HGW := Lib.hid ((hkw.block g (heap_lt HGB.out) id).trans HGB.out)
                      have HZW2 := Lib.hid ((hkw.block zb (heap_lt HZB.out) id).trans HZB.out)
                      clear hkw hTz KZ
                      have hgz1 : ¬ g = zb := HGZ'.out
                      have hgz2 : ¬ zb = g := fun e => HGZ'.out e.symm
                      cases G with
                      | true =>
                        have HRT := Lib.hid (HTD.out.1 (HG.out.1 rfl))
                        go_upto_region 23 with fail
                        have hTw : Tabs w12.drew := (HD8.out.kept (HKQ.out.trans HZW.out)).c.tabs
                        have KA := HKS.out _ (HKQ.out.trans HZW.out).drew
                        go_cut [16] from 112 to 129 (fun s15 wx => ∃ (B ra rd : Int) (rp : ByteArray) (rx : Int) (rt : ByteArray) (rl : Bool), s15 = .int .i64 B ∧ E = B ∧ ((B = 0 ∧ ra = a ∧ rd = d ∧ rp = p ∧ rx = x ∧ rt = tk ∧ rl = l) ∨ ((B != 0) = true ∧ a = 0 ∧ d = 0 ∧ p = ⟨#[]⟩ ∧ x = 0 ∧ tk = ⟨#[]⟩ ∧ l = false)) ∧ wx.heap[zb]? = some (chgO ra rd rp rx rt rl) ∧ wx.heap[g]? = some (chgO a d p x tk l) ∧ Kept (fun _ => False) wv wx)
                        case first =>
                          go_region_held3 (fun (w' : World) => w'.cell? (aad.add j) = some (.int .i64 av) ∧ w'.cell? (kad.add k) = some (.int .i64 key) ∧ w'.cell? ⟨cb, q, none⟩ = some (.int .i64 cv))
                            (first | with_reducible exact KC | with_reducible exact KA | with_reducible exact HKS.out _ (HKZ.out _ _ _ _ _ _))
                            ((go_at_call 51; refine (HRT.out _ hTw).mono ?_; rintro e w13 ⟨⟨B, ra, rd, rp, rx, rt, rl, rfl, heb, hcs⟩, hk13⟩; have HEB := Lib.hid heb; have HCS := Lib.hid hcs; have HK13 : Hid (Kept (fun _ => False) wv w13) := (HKQ.out.trans HZW.out).drew.trans hk13; have KC := HKS.out _ HK13.out; have h8 : w13.heap[zb]? = some zeroS := (hk13.block zb (heap_lt HZW2.out) id).trans HZW2.out; have h9 : w13.heap[g]? = some (chgO a d p x tk l) := (hk13.block g (heap_lt HGW.out) id).trans HGW.out; have H8 := Lib.hid h8; have H9 := Lib.hid h9; have HKZ : Hid (∀ u0 u1 u2 u3 u4 u5, Kept (fun _ => False) wv ((((((w13.setCell ⟨zb, 0, none⟩ u0).setCell ⟨zb, 1, none⟩ u1).setCell ⟨zb, 2, none⟩ u2).setCell ⟨zb, 3, none⟩ u3).setCell ⟨zb, 4, none⟩ u4).setCell ⟨zb, 5, none⟩ u5)) := (fun u0 u1 u2 u3 u4 u5 => HK13.out.fresh (Kept.six (Kept.refl (fun q => q = zb) w13) rfl _ _ _ _ _ _) (fun b hb e => HZQ.out b hb e)); obtain ⟨⟨d0, d1, d2, d3, d4, d5⟩, e0, e1, e2, e3, e4, e5⟩ := chg_facts h8; clear heb hcs hk13 h8 h9))
                          go_wp2_with fail
                          go_meet
                          exact ⟨B, ra, rd, rp, rx, rt, rl, rfl, HEB.out, HCS.out, chg_six H8.out _ _ _ _ _ _, (heap_far HGZ'.out _).trans ((heap_far HGZ'.out _).trans ((heap_far HGZ'.out _).trans ((heap_far HGZ'.out _).trans ((heap_far HGZ'.out _).trans ((heap_far HGZ'.out _).trans H9.out))))), HKZ.out _ _ _ _ _ _⟩
                        case rest =>
                          obtain ⟨B, ra, rd, rp, rx, rt, rl, rfl, rfl, hcs, hz9, hg9, hk9⟩ := hcut
                          clear KA hTw
                          obtain ⟨⟨y0, y1, y2, y3, y4, y5⟩, _⟩ := chg_facts hg9
                          obtain ⟨⟨z0, z1, z2, z3, z4, z5⟩, k0, k1, k2, k3, k4, k5⟩ := chg_facts hz9
                          have HK9 := Lib.hid hk9
                          clear hk9 hz9 hg9
                          rcases hcs with ⟨rfl, rfl, rfl, rfl, rfl, rfl, rfl⟩ | ⟨hb0, rfl, rfl, rfl, rfl, rfl, rfl⟩
                          · go_wp2_with (go_at_call 29; refine (snum_any _ _).mono ?_; rintro e w' ⟨rfl, hw⟩; have hw2 := hw.symm; subst hw2)
                            exact ⟨⟨q + 1, by omega, by go_num, HKA7.out.trans HK9.out⟩, by simp [intOf]; omega⟩
                          · go_wp2_with (go_at_call 29; refine (snum_any _ _).mono ?_; rintro e w' ⟨rfl, hw⟩; have hw2 := hw.symm; subst hw2)
                            exact ⟨⟨q + 1, by omega, by go_num, HKA7.out.trans (HK9.out.fresh (Kept.six (Kept.refl (fun q => q = zb) wc) rfl _ _ _ _ _ _) (fun b hb e => HZQ.out b hb e))⟩, by simp [intOf]; omega⟩
                      | false =>
                        obtain ⟨rfl, rfl, rfl, rfl, rfl, rfl, rfl⟩ := HTD.out.2 (fun h => Bool.noConfusion (HG.out.2 h))
                        obtain ⟨⟨y0, y1, y2, y3, y4, y5⟩, _⟩ := chg_facts HGW.out
                        obtain ⟨⟨z0, z1, z2, z3, z4, z5⟩, _⟩ := chg_facts HZW2.out
                        go_wp2_with (go_at_call 29; refine (snum_any _ _).mono ?_; rintro e w' ⟨rfl, hw⟩; have hw2 := hw.symm; subst hw2)
                        exact ⟨⟨q + 1, by omega, by go_num, HKA7.out.trans (HKQ.out.trans HZW.out)⟩, by simp [intOf]; omega⟩
                · obtain rfl : q = 3 := by omega
                  have b7 : decide ((3 : Int) < 3) = false := by decide
                  go_wp2_with fail
                  go_roundw
                  case rel => exact ⟨k + 1, by omega, by go_num, HKV5.out.trans (HKV6.out.trans HKV7.out)⟩
                  case measure => simp [intOf]; omega
            · have b4 : decide (k < kn) = false := by simp; omega
              go_wp2_with fail
              go_roundw
              case rel => exact ⟨j + 1, by omega, by go_num, HKV4.out.trans HKV5.out⟩
              case measure => simp [intOf]; omega
        · have b4 : decide (j < m) = false := by simp; omega
          go_wp2_with fail
          go_roundw
          case rel => exact ⟨i + 1, by omega, by omega, by go_num, HKW4.out⟩
          case measure => simp [intOf]; omega
    · have hlast : (i = n0 ∧ i < 3) ∨ (i < n0 ∧ i = 3) ∨ (i = n0 ∧ i = 3) := by omega
      have cW := swakes_any wi HHi.out.tabs
      rcases hlast with ⟨h1, h2⟩ | ⟨h1, h2⟩ | ⟨h1, h2⟩
      case' inl | inr.inr => have b1 : decide (i < n0) = false := by simp; omega
      case' inr.inl =>
        have b1 : decide (i < n0) = true := by simp; omega
        have b2 : decide (i < 3) = false := by simp; omega
        have b3 : decide ((i : Int) < 3) = false := by simp; omega
      all_goals
        clear h1 h2
        go_wp2_with (go_at_call 32; refine cW.mono ?_; rintro e w9 ⟨rfl, hk9⟩)
        go_ret
        exact ⟨rfl, HKi.out.trans hk9⟩

theorem smalls_lit (p : AskV) (keys : List Int) (w : World) (hp : AskOk w p) (hT : Tabs w) (hk : keys.length ≤ 100) (hok : ∀ key ∈ keys, KeyS key) :
    Calls Tryd.prog 27 #[.agg p.cells, .slice (some ⟨w.heap.size + 1, 0, none⟩) keys.length keys.length] ((w.alloc (.cells p.cells 28)).alloc (.cells (keys.map (Value.int .i64)).toArray 3)) fun e w' => e = .returned (.bool true) ∧ Kept (fun _ => False) w w' := by
  have hk1 : Kept (fun _ => False) w (w.alloc (.cells p.cells 28)) := (Kept.refl _ w).alloc _
  have hN := nums_new (w.alloc (.cells p.cells 28)) keys 3
  rw [show (w.alloc (.cells p.cells 28)).heap.size = w.heap.size + 1 by simp] at hN
  have hk2 : Kept (fun _ => False) w ((w.alloc (.cells p.cells 28)).alloc (.cells (keys.map (Value.int .i64)).toArray 3)) := hk1.alloc _
  exact (smalls_any p _ keys.length keys.length keys _ (hp.kept hk2) hN hk (hT.kept hk2 id id) hok).mono fun e w' h => ⟨h.1, hk2.trans h.2⟩
theorem ok_cons {key : Int} {keys : List Int} (h : KeyS key) (hs : ∀ k ∈ keys, KeyS k) : ∀ k ∈ key :: keys, KeyS k := fun k hk => by
  rcases List.mem_cons.1 hk with e | e
  · rw [e]; exact h
  · exact hs k e
theorem ok_nil : ∀ k ∈ ([] : List Int), KeyS k := fun k hk => by cases hk
end Go.Proofs.YtkeojjojilfklaaDoor
