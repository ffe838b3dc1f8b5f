/-
  THE LAW OrderFirst: the elements of any text.
-/
import Derived.Test.YtlminkbaafjloaaDoorOdE
import Derived.Deep.RegionHeld3
set_option linter.unusedVariables false
namespace Go.Proofs.YtlminkbaafjloaaDoor
open Go Go.RowKit

theorem bytes_le : ∀ t : List Int, (Utf.bytes t).length ≤ 4 * t.length
  | [] => Nat.le_refl _
  | r :: t => by
    have ih := bytes_le t
    have h1 := (Utf.enc_length r).2
    have e : Utf.bytes (r :: t) = Utf.enc r ++ Utf.bytes t := by simp [Utf.bytes]
    rw [e, List.length_append, List.length_cons]
    omega
theorem text_size (L : List ElemS) (h : L.length ≤ 1000) : (runesBytes (txL L)).size ≤ 140737488351232 := by
  rw [txt_size]
  have h1 := bytes_le (txL L)
  have h2 := txL_len L
  omega
theorem info_str : (Tryd.prog.info? 9).map (fun i => (i.zero, i.size, i.bytes)) = some (some (.string ⟨#[]⟩), 1, 16) := by kernel_rfl
theorem info_u8 : (Tryd.prog.info? 5).map (fun i => (i.zero, i.size, i.bytes)) = some (some (.int .u8 0), 1, 1) := by kernel_rfl
theorem make_three (W : World) : (Instr.makeSlice 27 (.int .i64 3) (.int .i64 3)).run Tryd.prog W = .ok (.slice (some ⟨W.heap.size, 0, none⟩) 3 3) (W.alloc (.cells #[.int .u8 0, .int .u8 0, .int .u8 0] 5)) := by
  obtain ⟨i0, hi, hz0, hz1, hz2⟩ := info_parts info_u8
  have hr := run_make (P := Tryd.prog) W 27 5 i0 _ Tryd.underlying27 hi hz0 .i64 .i64 3 3 (by omega) (by omega) (by rw [hz2]; omega) (by omega)
  rw [hz1] at hr
  have e : madeCells (Value.int .u8 0).cells 3 = #[.int .u8 0, .int .u8 0, .int .u8 0] := by
    apply Array.ext'
    simp [madeCells, Value.cells, List.range, List.range.loop]
  have e3 : Int.toNat 3 = 3 := rfl
  rw [e3, Nat.mul_one, e] at hr
  exact hr
theorem conv_three (W : World) (g : Nat) (h : W.heap[g]? = some (.cells #[.int .u8 0, .int .u8 0, .int .u8 0] 5 (0, 0))) :
    (convert 27 9 (.slice (some ⟨g, 0, none⟩) 3 3)).run Tryd.prog W = .ok (.string ⟨#[0, 0, 0]⟩) W := by
  refine run_convert_bytes_back (P := Tryd.prog) W 27 9 5 ⟨g, 0, none⟩ 3 [0, 0, 0] Tryd.underlying27 Tryd.underlying5 Tryd.underlying9 (fun j hj => ?_)
  rw [addr_add, cell_of_row _ _ _ _ _ _ h]
  have hj' : j < 3 := hj
  match j, hj' with
  | 0, _ => rfl
  | 1, _ => rfl
  | 2, _ => rfl
/-- May of the reference. -/
theorem rmay_any (s : ByteArray) (w : World) (hs : s.size ≤ 140737488351232) (hT : Tabs w) :
    Calls Tryd.prog 9 #[.string s] w fun e w' => e = .returned (.bool (mayB s)) ∧ Kept (fun _ => False) w w' := by
  by_cases h1 : s.size ≤ 4000
  · have cV := valid_any s w (by omega) hT
    have HT := Lib.hid hT
    clear hT
    have b1 : decide (4000 < s.size) = false := by simp; omega
    have b2 : decide (4000 < (s.size : Int)) = false := by simp; omega
    cases hv : Lib.validD s.data.toList
    · have hm : mayB s = false := by unfold mayB; rw [hv]; simp
      rw [hm]
      rw [hv] at cV
      clear hv hm
      go_enter Tryd.func9, Tryd.ntmps9
      go_wp2_with (go_at_call 25; refine cV.mono ?_; rintro e w1 ⟨rfl, hk1⟩)
      go_ret
      exact ⟨rfl, hk1⟩
    · have hm : mayB s = s.data.toList.all fun b => b != 0 := by
        unfold mayB
        rw [hv]
        simp [h1]
      obtain ⟨V, hV⟩ : ∃ V, mayB s = V := ⟨_, rfl⟩
      rw [hV]
      rw [hV] at hm
      have HM := Lib.hid hm
      rw [hv] at cV
      clear hm hv hV
      go_enter Tryd.func9, Tryd.ntmps9
      go_wp2_with (go_at_call 25; refine cV.mono ?_; rintro e w1 ⟨rfl, hk1⟩)
      have HK := Lib.hid hk1
      clear hk1
      go_loop [3] (fun v => ∃ k : Nat, k ≤ s.size ∧ v = .int .i64 k ∧ (s.data.toList.take k).all (fun b => b != 0) = true) (fun v => s.size - (intOf v).toNat)
      case atStart => exact ⟨0, Nat.zero_le _, rfl, rfl⟩
      case round =>
        obtain ⟨k, hk, rfl, hall⟩ := hrel
        have HA := Lib.hid hall
        clear hall
        by_cases hlt : k < s.size
        · obtain ⟨b, hb⟩ : ∃ b, s[k]'hlt = b := ⟨_, rfl⟩
          have hlist : Hid (s.data.toList[k]? = some b) := by
            rw [← hb]
            exact byte_at s k hlt
          by_cases h0 : b = 0
          · have b3 : ((b.toNat : Int) == 0) = true := by rw [h0]; rfl
            have hV : Hid (V = false) := by
              show _ = _
              rw [HM.out, List.all_eq_false]
              exact ⟨b, List.mem_of_getElem? hlist.out, by rw [h0]; decide⟩
            clear h0
            go_wp2
            go_ret
            rw [hV.out]
            exact ⟨rfl, HK.out⟩
          · have b3 : ((b.toNat : Int) == 0) = false := by
              rw [beq_eq_false_iff_ne]
              intro h
              exact h0 (UInt8.toNat_inj.1 (by simp; omega))
            have H0 : Hid ((b != 0) = true) := by show _ = _; simpa using h0
            clear h0
            go_wp2
            go_round
            case rel =>
              refine ⟨k + 1, by omega, by go_num, ?_⟩
              rw [List.take_add_one, hlist.out, List.all_append, HA.out]
              simpa using H0.out
            case measure => simp [intOf]; omega
        · obtain rfl : k = s.size := by omega
          have hsz := Lib.size_eq s
          have hfin : Hid (V = true) := by
            show _ = _
            have h := HA.out
            rw [HM.out]
            rwa [List.take_of_length_le (by omega)] at h
          clear hsz
          go_wp2
          go_ret
          rw [hfin.out]
          exact ⟨rfl, HK.out⟩
  · have b1 : decide (4000 < s.size) = true := by simp; omega
    have b2 : decide (4000 < (s.size : Int)) = true := by simp; omega
    have hm : mayB s = false := by unfold mayB; simp [h1]
    rw [hm]
    clear hm hT
    go_enter Tryd.func9, Tryd.ntmps9
    go_wp2
    go_ret
    exact ⟨rfl, Kept.refl _ _⟩
def fourT : List ByteArray := [⟨#[]⟩, ⟨#[97, 10, 98, 226, 130, 172]⟩, ⟨#[0, 0, 0]⟩, ⟨#[255]⟩]
theorem num24_any (n : Int) (w : World) : Calls Tryd.prog 11 #[.int .i64 n] w fun e w' => e = .returned (.int .i64 n) ∧ w' = w := by
  go_enter Tryd.func11, Tryd.ntmps11
  go_wp2
  go_ret
  exact ⟨rfl, rfl⟩
theorem own_keptV {w w' : World} {B size n : Nat} {t : TypeId} {v : Value} {xs : List Value} (h : w.ownsRow B t size v n xs) (hk : Kept (fun _ => False) w w') : w'.ownsRow B t size v n xs := by
  refine ⟨h.1, ?_⟩
  rcases h.2 with hn | ⟨g, cap, cur, e, hb, hg, rest⟩
  · exact .inl hn
  · exact .inr ⟨g, cap, cur, e, hb, (hk.block g (heap_lt hg) id).trans hg, rest⟩
theorem own_strs {w : World} {B n : Nat} {v : Value} {ss : List ByteArray} (h : w.ownsRow B 9 1 v n (ss.map Value.string)) (hs : ∀ s ∈ ss, s.size ≤ 140737488351232) : ∃ A c, v = .slice A n c ∧ Strs w A n ss := by
  have hl : ss.length = n := by have := h.1; rw [List.length_map] at this; omega
  rcases id h.2 with ⟨rfl, rfl⟩ | ⟨g, cap, cur, rfl, hb, hh, hcap, _, _, _⟩
  · obtain rfl := List.eq_nil_of_length_eq_zero hl
    exact ⟨none, 0, rfl, rfl, fun j x hj => by simp at hj⟩
  · refine ⟨_, cap, rfl, hl, fun j x hj => ⟨_, rfl, ?_, hs x (List.mem_of_getElem? hj)⟩⟩
    exact h.cells rfl j _ (by rw [List.getElem?_map, hj]; rfl)
theorem one_str (W : World) (x : ByteArray) (ty : TypeId) : ∀ j u, ([Value.string x] : List Value)[j]? = some u → (W.alloc (.cells #[.string x] ty)).cell? ((⟨W.heap.size, 0, none⟩ : Addr).add j) = some u := by
  intro j u hj
  match j, hj with
  | 0, hj =>
    rw [addr_add, cell_of_row _ _ _ _ _ _ (heap_alloc_new W _)]
    simpa using hj
set_option maxRecDepth 100000 in
set_option maxHeartbeats 16000000 in
theorem orderFirst_of (hW : ∀ W, Tabs W → Calls Tryd.prog 13 #[] W fun e w' => e = .returned (.bool true) ∧ Kept (fun _ => False) W w') (p : ScrE) (w : World) (hp : ScrEOk w p) (hT : Tabs w) :
    Calls Tryd.prog 3 #[.agg p.cells] w fun e w' => e = .returned (.bool true) ∧ Kept (fun _ => False) w w' := by
  have hK0 : Hid (Kept (fun _ => False) w (w.alloc (.cells p.cells 25))) := (Kept.refl _ w).alloc _
  have hP0 : Hid ((w.alloc (.cells p.cells 25)).heap[w.heap.size]? = some (.cells p.cells 25 (0, 0))) := heap_alloc_new w _
  have hA0 : Hid (ScrEOk (w.alloc (.cells p.cells 25)) p) := hp.kept hK0.out
  have HTA := Lib.hid (hT.kept hK0.out id id)
  have HTW := Lib.hid hT
  have cH := heavy24_any p (w.alloc (.cells p.cells 25)) hA0.out
  clear hp hT
  obtain ⟨X, es, O, on, oc, os⟩ := p
  unfold ScrE.cells at *
  simp only at *
  go_enter Tryd.func3, Tryd.ntmps3
  go_wp2_with fail
  refine cH.mono ?_
  clear cH
  rintro e w1 ⟨⟨hv, rfl, hsm⟩, hk1⟩
  have HS := Lib.hid hsm
  have HK1 := Lib.hid (hK0.out.trans hk1)
  have HP1 := Lib.hid ((hk1.block _ (heap_lt hP0.out) id).trans hP0.out)
  have HA1 := Lib.hid (hA0.out.kept hk1)
  have HT1 := Lib.hid (HTA.out.kept hk1 id id)
  clear hsm hk1 hP0 hA0 hK0 HTA
  generalize hpb : w.heap.size = pb at HP1 ⊢
  clear hpb
  cases hv with
  | true =>
    go_wp2_with fail
    go_ret
    exact ⟨rfl, HK1.out⟩
  | false =>
    have hes : es.length ≤ 600 := HS.out rfl
    have HL := Lib.hid hes
    clear HS hes
    have hmk := make_three w1
    have hbz : (w1.alloc (.cells #[.int .u8 0, .int .u8 0, .int .u8 0] 5)).heap[w1.heap.size]? = some (.cells #[.int .u8 0, .int .u8 0, .int .u8 0] 5 (0, 0)) := heap_alloc_new w1 _
    have hcv := conv_three _ _ hbz
    have hk2 : Kept (fun _ => False) w1 (w1.alloc (.cells #[.int .u8 0, .int .u8 0, .int .u8 0] 5)) := (Kept.refl _ w1).alloc _
    have HK2 := Lib.hid hk2
    have HSZ : Hid ((w1.alloc (.cells #[.int .u8 0, .int .u8 0, .int .u8 0] 5)).heap.size = w1.heap.size + 1) := Array.size_push _
    clear hbz hk2
    go_upto_region 4 with fail
    clear hmk hcv
    generalize w1.alloc (.cells #[.int .u8 0, .int .u8 0, .int .u8 0] 5) = w2 at *
    have hk3 : Kept (fun _ => False) w2 (w2.alloc (.cells #[.string ⟨#[]⟩, .string ⟨#[97, 10, 98, 226, 130, 172]⟩, .string ⟨#[0, 0, 0]⟩, .string ⟨#[255]⟩] 9)) := (Kept.refl _ w2).alloc _
    have hown3 : (w2.alloc (.cells #[.string ⟨#[]⟩, .string ⟨#[97, 10, 98, 226, 130, 172]⟩, .string ⟨#[0, 0, 0]⟩, .string ⟨#[255]⟩] 9)).ownsRow w2.heap.size 9 1 (.slice (some ⟨w2.heap.size, 0, none⟩) 4 4) 4 (fourT.map Value.string) :=
      World.ownsRow_lit (base := w2.heap.size) (e := 9) (size := 1) w2 #[.string ⟨#[]⟩, .string ⟨#[97, 10, 98, 226, 130, 172]⟩, .string ⟨#[0, 0, 0]⟩, .string ⟨#[255]⟩] 4 (Nat.le_refl _) (by decide) rfl
    have HO3 := Lib.hid hown3
    have HK3 := Lib.hid (HK1.out.trans (HK2.out.trans hk3))
    have HP3 := Lib.hid (((HK2.out.trans hk3).block _ (heap_lt HP1.out) id).trans HP1.out)
    have HA3 := Lib.hid (HA1.out.kept (HK2.out.trans hk3))
    have HT3 := Lib.hid (HT1.out.kept (HK2.out.trans hk3) id id)
    have HB3 : Hid (w2.heap.size ≤ (w2.alloc (.cells #[.string ⟨#[]⟩, .string ⟨#[97, 10, 98, 226, 130, 172]⟩, .string ⟨#[0, 0, 0]⟩, .string ⟨#[255]⟩] 9)).heap.size) := hk3.size
    have HBW : Hid (w.heap.size ≤ w2.heap.size) := (HK1.out.trans HK2.out).size
    clear hk3 hown3 HK1 HP1 HA1 HT1 HK2
    generalize w2.alloc (.cells #[.string ⟨#[]⟩, .string ⟨#[97, 10, 98, 226, 130, 172]⟩, .string ⟨#[0, 0, 0]⟩, .string ⟨#[255]⟩] 9) = w3 at *
    rw [HSZ.out] at HO3 HB3 HBW
    clear HSZ
    generalize w1.heap.size + 1 = B at *
    have p0 : w3.cell? ⟨pb, 0, none⟩ = some X := cell_of_row _ _ _ _ _ _ HP3.out
    go_wp2_with fail
    refine (relems_any X es w3 HA3.out.es (by have := HL.out; omega)).mono ?_
    clear p0
    rintro e w4 ⟨⟨q, rfl, hq⟩, hk4⟩
    have HQ := Lib.hid hq
    have HO4 := Lib.hid (HO3.out)
    have HK34 := Lib.hid hk4
    have HK4 := Lib.hid (HK3.out.trans hk4)
    have HP4 := Lib.hid ((hk4.block _ (heap_lt HP3.out) id).trans HP3.out)
    have HA4 := Lib.hid (HA3.out.kept hk4)
    have HT4 := Lib.hid (HT3.out.kept hk4 id id)
    clear hq hk4
    cases q
    · obtain ⟨A4, c4, hA4, hst⟩ := own_strs HO3.out (fun s hs => by
        have h4 : ∀ s ∈ fourT, s.size ≤ 140737488351232 := by decide
        exact h4 s hs)
      injection hA4 with hA4 _ hc4
      subst hA4
      subst hc4
      have HST := Lib.hid (hst.kept HK34.out)
      have HK0 := HK4
      have HT0 := HT4
      clear hst
      go_wp2_with fail
      go_loopw [4] (fun i wr => ∃ k : Nat, k ≤ 4 ∧ i = .int .i64 k ∧ Kept (fun _ => False) w4 wr) (fun i _ => 4 - (intOf i).toNat)
      case atStart => exact ⟨0, Nat.zero_le _, rfl, Kept.refl _ _⟩
      case round =>
        obtain ⟨k, hk, rfl, hkept⟩ := hrel
        have HK := Lib.hid hkept
        clear hkept
        by_cases hlt : k < 4
        · obtain ⟨ad, s, ha, hs, hc, hsz⟩ := (HST.out.kept HK.out).cell hlt
          injection ha with ha
          subst ha
          rw [addr_add, Nat.zero_add] at hc
          have hlocA : ∀ W, Kept (fun _ => False) wr W → W.cell? ⟨B, k, none⟩ = some (.string s) := fun W hk => cell_kept hk hc id
          have HC := Lib.hid hlocA
          have b1 : decide (k < 4) = true := decide_eq_true hlt
          have b2 : decide ((k : Int) < (4 : Int)) = true := decide_eq_true (by omega)
          have t1 : (0 : Int) ≤ (k : Int) := by omega
          have t2 : (k : Int) < (4 : Int) := by omega
          have cF := pfirst_any s wr hsz (HT0.out.kept HK.out id id)
          have cM := fun W (hk : Kept (fun _ => False) wr W) => rmay_any s W hsz (HT0.out.kept (HK.out.trans hk) id id)
          
          clear hs hlocA hsz
          go_wp2_with fail
          refine cF.mono ?_
          clear cF hc
          rintro e w2 ⟨hpf, hk2⟩
          have HX2 := Lib.hid hk2
          have hc := HC.out w2 hk2
          clear hk2
          rcases hpf with ⟨hm, hl2, v, rfl, hv⟩ | ⟨hm, hl2, rfl⟩ | ⟨hm, rfl⟩
          · rw [hm] at cM
            have cR := fun W => rfirst_any s W hm
            unfold RFirst at cR
            simp only [if_pos hl2] at cR
            have HV := Lib.hid hv
            have HM := Lib.hid hm
            have hELn : (EL (rs s)).length ≤ 200 := by rw [EL_len]; exact hl2
            have HEL := Lib.hid hELn
            have hrange : ∀ e ∈ EL (rs s), 0 ≤ e.r ∧ e.r ≤ 1114111 := fun e he => by
              have h1 := rs_runey (mayB_valid hm)
              unfold EL at he
              obtain ⟨p, hp, rfl⟩ := List.mem_map.1 he
              exact h1 p.1 (List.fst_mem_of_mem_zipIdx hp)
            have HRG := Lib.hid hrange
            have htx : runesBytes (txL (EL (rs s))) = s := by rw [txL_EL, txt_rs hm]
            have cX := fun W (hk : Kept (fun _ => False) w2 W) => rtext_any v (EL (rs s)) W (hv.kept hk).se (by omega) HRG.out
            simp only [htx] at cX
            clear hm hl2 hv hELn hrange htx
            generalize EL (rs s) = L at *
            go_wp2_with fail
            refine (cM _ HX2.out).mono ?_
            clear cM hc
            rintro e w3 ⟨rfl, hk3⟩
            have HX3 := Lib.hid (HX2.out.trans hk3)
            have HY3 := Lib.hid hk3
            have hc := HC.out w3 HX3.out
            clear hk3
            go_wp2_with fail
            refine (cR _).mono ?_
            clear cR hc
            rintro e w4 ⟨⟨v2, rfl, hv2⟩, hk4⟩
            have HX4 := Lib.hid (HX3.out.trans hk4)
            have HY4 := Lib.hid (HY3.out.trans hk4)
            have HV2 := Lib.hid hv2
            have hc := HC.out w4 HX4.out
            clear hk4 hv2
            go_wp2_with (go_at_call 11; refine (num24_any _ _).mono ?_; rintro e w' ⟨rfl, hw⟩; have hw2 := hw.symm; subst hw2)
            refine (eqelems_yes v v2 L _ (HV.out.kept HY4.out).se HV2.out.se (by have := HEL.out; omega)).mono ?_
            clear hc
            rintro e w5 ⟨rfl, hk5⟩
            have HX5 := Lib.hid (HX4.out.trans hk5)
            have HY5 := Lib.hid (HY4.out.trans hk5)
            have hc := HC.out w5 HX5.out
            clear hk5
            go_wp2_with fail
            have KA : w5.drew.cell? ⟨B, k, none⟩ = some (.string s) := hc
            have cX5 := cX w5.drew HY5.out.drew
            clear cX hc
            go_region_held3 (fun (w' : World) => w'.cell? ⟨B, k, none⟩ = some (.string s))
              (first | with_reducible exact KB | with_reducible exact KA)
              (first | (go_at_call 7; refine cX5.mono ?_; rintro e w6 ⟨rfl, hk6⟩; have HX6 : Hid (Kept (fun _ => False) wr w6) := HX5.out.drew.trans hk6; have KB : w6.cell? ⟨B, k, none⟩ = some (.string s) := HC.out w6 HX6.out; clear hk6))
            all_goals
              go_wp2_with fail
              go_roundw
              case rel => exact ⟨k + 1, by omega, by go_num, HK.out.trans HX6.out⟩
              case measure => simp [intOf] <;> omega
          · rw [hm] at cM
            have cR := fun W => rfirst_any s W hm
            unfold RFirst at cR
            simp only [if_neg hl2] at cR
            clear hm hl2
            go_wp2_with fail
            refine (cM _ HX2.out).mono ?_
            clear cM hc
            rintro e w3 ⟨rfl, hk3⟩
            have HX3 := Lib.hid (HX2.out.trans hk3)
            have hc := HC.out w3 HX3.out
            clear hk3
            go_wp2_with fail
            refine (cR _).mono ?_
            clear cR hc
            rintro e w4 ⟨rfl, hk4⟩
            have HX4 := Lib.hid (HX3.out.trans hk4)
            clear hk4
            go_wp2_with (go_at_call 11; refine (num24_any _ _).mono ?_; rintro e w' ⟨rfl, hw⟩; have hw2 := hw.symm; subst hw2)
            refine (eqelems_yes (.slice none 0 0) (.slice none 0 0) [] _ (se_nil _) (se_nil _) (Nat.zero_le _)).mono ?_
            rintro e w5 ⟨rfl, hk5⟩
            have HX5 := Lib.hid (HX4.out.trans hk5)
            clear hk5
            go_wp2_with fail
            go_quiet (fail)
            go_wp2_with fail
            go_roundw
            case rel => exact ⟨k + 1, by omega, by go_num, HK.out.trans (HX5.out.drewN _)⟩
            case measure => simp [intOf] <;> omega
          · rw [hm] at cM
            clear hm
            go_wp2_with fail
            refine (cM _ HX2.out).mono ?_
            clear cM hc
            rintro e w3 ⟨rfl, hk3⟩
            have HX3 := Lib.hid (HX2.out.trans hk3)
            clear hk3
            go_wp2_with (go_at_call 11; refine (num24_any _ _).mono ?_; rintro e w' ⟨rfl, hw⟩; have hw2 := hw.symm; subst hw2)
            refine (eqelems_yes (.slice none 0 0) (.slice none 0 0) [] _ (se_nil _) (se_nil _) (Nat.zero_le _)).mono ?_
            rintro e w5 ⟨rfl, hk5⟩
            have HX5 := Lib.hid (HX3.out.trans hk5)
            clear hk5
            go_wp2_with fail
            go_quiet (fail)
            go_wp2_with fail
            go_roundw
            case rel => exact ⟨k + 1, by omega, by go_num, HK.out.trans (HX5.out.drewN _)⟩
            case measure => simp [intOf] <;> omega
        · obtain rfl : k = 4 := by omega
          have b1 : decide ((4 : Nat) < 4) = false := decide_eq_false (by omega)
          have b2 : decide ((((4 : Nat)) : Int) < (((4 : Nat)) : Int)) = false := decide_eq_false (by omega)
          go_wp2_with fail
          refine (hW _ (HT0.out.kept HK.out id id)).mono ?_
          rintro e w9 ⟨rfl, hk9⟩
          have HK9 := Lib.hid (HK0.out.trans (HK.out.trans hk9))
          clear hk9
          go_wp2_with fail
          go_ret
          exact ⟨rfl, HK9.out⟩
    · have hru := HQ.out rfl
      have cX := rtext_any X es w4 HA4.out.es (by have := HL.out; omega) (fun e he => by have := hru e he; exact ⟨by have := this.1; omega, this.2.1⟩)
      have hsx := text_size es (by have := HL.out; omega)
      obtain ⟨S, hS⟩ : ∃ S, runesBytes (txL es) = S := ⟨_, rfl⟩
      rw [hS] at cX hsx
      have HSX := Lib.hid hsx
      obtain ⟨j0, hj, hj0, hj1, hj2⟩ := info_parts info_str
      have p0 : w4.cell? ⟨pb, 0, none⟩ = some X := cell_of_row _ _ _ _ _ _ HP4.out
      clear hru hS hsx
      go_wp2_with fail
      refine cX.mono ?_
      clear cX p0
      rintro e w5 ⟨rfl, hk5⟩
      have hown5 := HO3.out
      have HK5 := Lib.hid (HK34.out.trans hk5)
      have hO5 : w5.ownsRow B 9 1 (.slice (some ⟨B, 0, none⟩) 4 4) 4 (fourT.map Value.string) := own_keptV HO3.out HK5.out
      have HKW5 := Lib.hid (HK4.out.trans hk5)
      have HT5 := Lib.hid (HT4.out.kept hk5 id id)
      have hBw : B ≤ w5.heap.size := by have := HB3.out; have := HK5.out.size; omega
      clear hk5 hown5
      go_wp2_with (at_builtin; refine wpList_append_own_at _ rfl (.tmp 19) (.tmp 23) 28 rfl B 9 j0 (.string ⟨#[]⟩) 1 16 Tryd.underlying28 hj hj0 hj1 hj2 rfl (by decide) _ _ _ rfl (World.ownsRow.alloc hO5 _) ⟨_, 0, none⟩ 1 1 [.string S] rfl rfl (one_str _ _ _) (fun u hu => by simp at hu; subst hu; rfl) (by unfold maxLen; omega) (by omega) (by simp <;> omega) ?_; intro v6 w6 hown6 hgrow6 _ hat6; have HO6 := Lib.hid hown6; have HK6 := Lib.hid (Kept.grew (HKW5.out.alloc _) hgrow6 (fun q hq => by have := (World.ownsRow.lt hO5 q hq).1; have := HBW.out; omega)); have HT6 : Hid (Tabs w6) := (HTW.out.kept HK6.out id id); clear hown6 hgrow6 hat6)
      obtain ⟨A6, c6, rfl, hst⟩ := own_strs (n := 5) (ss := fourT ++ [S]) (by rw [List.map_append]; exact HO6.out) (fun s hs => by
        have h4 : ∀ s ∈ fourT, s.size ≤ 140737488351232 := by decide
        rcases List.mem_append.1 hs with hs | hs
        · exact h4 s hs
        · obtain rfl : s = S := by simpa using hs
          exact HSX.out)
      obtain ⟨ad6, rfl⟩ : ∃ ad6, A6 = some ad6 := by
        obtain ⟨ad, _, h1, _⟩ := hst.cell (j := 0) (by omega)
        exact ⟨ad, h1⟩
      have HST := Lib.hid hst
      have HK0 := HK6
      have HT0 := HT6
      clear hst
      go_wp2_with fail
      go_loopw [4] (fun i wr => ∃ k : Nat, k ≤ 5 ∧ i = .int .i64 k ∧ Kept (fun _ => False) w6 wr) (fun i _ => 5 - (intOf i).toNat)
      case atStart => exact ⟨0, Nat.zero_le _, rfl, Kept.refl _ _⟩
      case round =>
        obtain ⟨k, hk, rfl, hkept⟩ := hrel
        have HK := Lib.hid hkept
        clear hkept
        by_cases hlt : k < 5
        · obtain ⟨ad, s, ha, hs, hc, hsz⟩ := (HST.out.kept HK.out).cell hlt
          injection ha with ha
          subst ha
          have hlocA : ∀ W, Kept (fun _ => False) wr W → W.cell? (ad6.add k) = some (.string s) := fun W hk => cell_kept hk hc id
          have HC := Lib.hid hlocA
          have b1 : decide (k < 5) = true := decide_eq_true hlt
          have b2 : decide ((k : Int) < (5 : Int)) = true := decide_eq_true (by omega)
          have t1 : (0 : Int) ≤ (k : Int) := by omega
          have t2 : (k : Int) < (5 : Int) := by omega
          have cF := pfirst_any s wr hsz (HT0.out.kept HK.out id id)
          have cM := fun W (hk : Kept (fun _ => False) wr W) => rmay_any s W hsz (HT0.out.kept (HK.out.trans hk) id id)
          
          clear hs hlocA hsz
          go_wp2_with fail
          refine cF.mono ?_
          clear cF hc
          rintro e w2 ⟨hpf, hk2⟩
          have HX2 := Lib.hid hk2
          have hc := HC.out w2 hk2
          clear hk2
          rcases hpf with ⟨hm, hl2, v, rfl, hv⟩ | ⟨hm, hl2, rfl⟩ | ⟨hm, rfl⟩
          · rw [hm] at cM
            have cR := fun W => rfirst_any s W hm
            unfold RFirst at cR
            simp only [if_pos hl2] at cR
            have HV := Lib.hid hv
            have HM := Lib.hid hm
            have hELn : (EL (rs s)).length ≤ 200 := by rw [EL_len]; exact hl2
            have HEL := Lib.hid hELn
            have hrange : ∀ e ∈ EL (rs s), 0 ≤ e.r ∧ e.r ≤ 1114111 := fun e he => by
              have h1 := rs_runey (mayB_valid hm)
              unfold EL at he
              obtain ⟨p, hp, rfl⟩ := List.mem_map.1 he
              exact h1 p.1 (List.fst_mem_of_mem_zipIdx hp)
            have HRG := Lib.hid hrange
            have htx : runesBytes (txL (EL (rs s))) = s := by rw [txL_EL, txt_rs hm]
            have cX := fun W (hk : Kept (fun _ => False) w2 W) => rtext_any v (EL (rs s)) W (hv.kept hk).se (by omega) HRG.out
            simp only [htx] at cX
            clear hm hl2 hv hELn hrange htx
            generalize EL (rs s) = L at *
            go_wp2_with fail
            refine (cM _ HX2.out).mono ?_
            clear cM hc
            rintro e w3 ⟨rfl, hk3⟩
            have HX3 := Lib.hid (HX2.out.trans hk3)
            have HY3 := Lib.hid hk3
            have hc := HC.out w3 HX3.out
            clear hk3
            go_wp2_with fail
            refine (cR _).mono ?_
            clear cR hc
            rintro e w4 ⟨⟨v2, rfl, hv2⟩, hk4⟩
            have HX4 := Lib.hid (HX3.out.trans hk4)
            have HY4 := Lib.hid (HY3.out.trans hk4)
            have HV2 := Lib.hid hv2
            have hc := HC.out w4 HX4.out
            clear hk4 hv2
            go_wp2_with (go_at_call 11; refine (num24_any _ _).mono ?_; rintro e w' ⟨rfl, hw⟩; have hw2 := hw.symm; subst hw2)
            refine (eqelems_yes v v2 L _ (HV.out.kept HY4.out).se HV2.out.se (by have := HEL.out; omega)).mono ?_
            clear hc
            rintro e w5 ⟨rfl, hk5⟩
            have HX5 := Lib.hid (HX4.out.trans hk5)
            have HY5 := Lib.hid (HY4.out.trans hk5)
            have hc := HC.out w5 HX5.out
            clear hk5
            go_wp2_with fail
            have KA : w5.drew.cell? (ad6.add k) = some (.string s) := hc
            have cX5 := cX w5.drew HY5.out.drew
            clear cX hc
            go_region_held3 (fun (w' : World) => w'.cell? (ad6.add k) = some (.string s))
              (first | with_reducible exact KB | with_reducible exact KA)
              (first | (go_at_call 7; refine cX5.mono ?_; rintro e w6 ⟨rfl, hk6⟩; have HX6 : Hid (Kept (fun _ => False) wr w6) := HX5.out.drew.trans hk6; have KB : w6.cell? (ad6.add k) = some (.string s) := HC.out w6 HX6.out; clear hk6))
            all_goals
              go_wp2_with fail
              go_roundw
              case rel => exact ⟨k + 1, by omega, by go_num, HK.out.trans HX6.out⟩
              case measure => simp [intOf] <;> omega
          · rw [hm] at cM
            have cR := fun W => rfirst_any s W hm
            unfold RFirst at cR
            simp only [if_neg hl2] at cR
            clear hm hl2
            go_wp2_with fail
            refine (cM _ HX2.out).mono ?_
            clear cM hc
            rintro e w3 ⟨rfl, hk3⟩
            have HX3 := Lib.hid (HX2.out.trans hk3)
            have hc := HC.out w3 HX3.out
            clear hk3
            go_wp2_with fail
            refine (cR _).mono ?_
            clear cR hc
            rintro e w4 ⟨rfl, hk4⟩
            have HX4 := Lib.hid (HX3.out.trans hk4)
            clear hk4
            go_wp2_with (go_at_call 11; refine (num24_any _ _).mono ?_; rintro e w' ⟨rfl, hw⟩; have hw2 := hw.symm; subst hw2)
            refine (eqelems_yes (.slice none 0 0) (.slice none 0 0) [] _ (se_nil _) (se_nil _) (Nat.zero_le _)).mono ?_
            rintro e w5 ⟨rfl, hk5⟩
            have HX5 := Lib.hid (HX4.out.trans hk5)
            clear hk5
            go_wp2_with fail
            go_quiet (fail)
            go_wp2_with fail
            go_roundw
            case rel => exact ⟨k + 1, by omega, by go_num, HK.out.trans (HX5.out.drewN _)⟩
            case measure => simp [intOf] <;> omega
          · rw [hm] at cM
            clear hm
            go_wp2_with fail
            refine (cM _ HX2.out).mono ?_
            clear cM hc
            rintro e w3 ⟨rfl, hk3⟩
            have HX3 := Lib.hid (HX2.out.trans hk3)
            clear hk3
            go_wp2_with (go_at_call 11; refine (num24_any _ _).mono ?_; rintro e w' ⟨rfl, hw⟩; have hw2 := hw.symm; subst hw2)
            refine (eqelems_yes (.slice none 0 0) (.slice none 0 0) [] _ (se_nil _) (se_nil _) (Nat.zero_le _)).mono ?_
            rintro e w5 ⟨rfl, hk5⟩
            have HX5 := Lib.hid (HX3.out.trans hk5)
            clear hk5
            go_wp2_with fail
            go_quiet (fail)
            go_wp2_with fail
            go_roundw
            case rel => exact ⟨k + 1, by omega, by go_num, HK.out.trans (HX5.out.drewN _)⟩
            case measure => simp [intOf] <;> omega
        · obtain rfl : k = 5 := by omega
          have b1 : decide ((5 : Nat) < 5) = false := decide_eq_false (by omega)
          have b2 : decide ((((5 : Nat)) : Int) < (((5 : Nat)) : Int)) = false := decide_eq_false (by omega)
          go_wp2_with fail
          refine (hW _ (HT0.out.kept HK.out id id)).mono ?_
          rintro e w9 ⟨rfl, hk9⟩
          have HK9 := Lib.hid (HK0.out.trans (HK.out.trans hk9))
          clear hk9
          go_wp2_with fail
          go_ret
          exact ⟨rfl, HK9.out⟩
end Go.Proofs.YtlminkbaafjloaaDoor
