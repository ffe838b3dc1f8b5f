/-
  ROWS SHIFTED, THE PROGRAM's: shifted, and Of by > and <.
-/
import Derived.Test.YtpgoikecignldaaDoorSfS
import Derived.Test.YtpgoikecignldaaDoorOc
import Derived.Deep.RegionHeld3
import Derived.Deep.CutRange
set_option linter.unusedVariables false
namespace Go.Proofs.YtpgoikecignldaaDoor
open Go Go.RowKit

abbrev zeroQ : Obj := chgO 0 0 ⟨#[]⟩ 0 ⟨#[]⟩ false
/-- The change that is told, as it lies in a tuple. -/
def chgQ (a d : Int) (p : ByteArray) (x : Int) (tk : ByteArray) (E : Int) : Value := .tuple #[chgV a d p x tk false, .int .i64 E]
/-- What > and < make. -/
def ShV (s : ByteArray) (lo hi : Nat) (key : Int) (v : Value) : Prop :=
  (mayB (runesBytes (shZ (rs s) lo hi key)) = true → v = chgQ (Rw.bat (rs s) (shZ (rs s) lo hi key) : Nat) (Rw.bdel (rs s) (shZ (rs s) lo hi key) : Nat) (runesBytes (Rw.bins (rs s) (shZ (rs s) lo hi key))) (Rw.rst (shZ (rs s) lo hi key) (Rw.fst (shZ (rs s) lo hi key) (Rw.beg (rs s) lo)) : Nat) ⟨#[]⟩ 0) ∧
  (mayB (runesBytes (shZ (rs s) lo hi key)) = false → v = chgQ 0 0 ⟨#[]⟩ 0 ⟨#[]⟩ 4)
def midR (rows : List (List Int)) (key : Int) (i : Nat) : List ByteArray := ((rows.take i).map (shR key) ++ rows.drop i).map runesBytes
theorem midR_at {rows : List (List Int)} {key : Int} {i : Nat} {r : List Int} (h : rows[i]? = some r) : (midR rows key i)[i]? = some (runesBytes r) := by
  have hl : i < rows.length := by
    rcases Nat.lt_or_ge i rows.length with h' | h'
    · exact h'
    · rw [List.getElem?_eq_none h'] at h; cases h
  unfold midR
  rw [List.getElem?_map, List.getElem?_append_right (by rw [List.length_map, List.length_take]; omega), List.length_map, List.length_take, List.getElem?_drop]
  rw [show i + (i - min i rows.length) = i by omega, h]
  rfl
theorem midR_set {rows : List (List Int)} {key : Int} {i : Nat} {r : List Int} (h : rows[i]? = some r) : (((midR rows key i).map Value.string).toArray).setIfInBounds i (.string (runesBytes (shR key r))) = ((midR rows key (i + 1)).map Value.string).toArray := by
  have hl : i < rows.length := by
    rcases Nat.lt_or_ge i rows.length with h' | h'
    · exact h'
    · rw [List.getElem?_eq_none h'] at h; cases h
  rw [List.setIfInBounds_toArray, ← List.map_set]
  congr 2
  unfold midR
  rw [← List.map_set]
  congr 1
  have hd : rows.drop i = r :: rows.drop (i + 1) := by
    rw [List.drop_eq_getElem_cons hl]
    rw [List.getElem?_eq_getElem hl] at h
    injection h with h
    rw [h]
  rw [hd, List.set_append_right _ _ (by rw [List.length_map, List.length_take]; omega), List.length_map, List.length_take, show i - min i rows.length = 0 by omega, List.set_cons_zero, List.take_add_one, h, List.map_append, List.append_assoc]
  rfl
theorem midR_keep {rows : List (List Int)} {key : Int} {i : Nat} {r : List Int} (h : rows[i]? = some r) (hr : shR key r = r) : midR rows key (i + 1) = midR rows key i := by
  have hl : i < rows.length := by
    rcases Nat.lt_or_ge i rows.length with h' | h'
    · exact h'
    · rw [List.getElem?_eq_none h'] at h; cases h
  unfold midR
  congr 1
  have hd : rows.drop i = r :: rows.drop (i + 1) := by
    rw [List.drop_eq_getElem_cons hl]
    rw [List.getElem?_eq_getElem hl] at h
    injection h with h
    rw [h]
  rw [hd, List.take_add_one, h, List.map_append, List.append_assoc]
  show _ ++ ([shR key r] ++ _) = _
  rw [hr]
  rfl
theorem midR_zero (rows : List (List Int)) (key : Int) : midR rows key 0 = rows.map runesBytes := by unfold midR; simp
theorem midR_end (rows : List (List Int)) (key : Int) : midR rows key rows.length = (rows.map (shR key)).map runesBytes := by
  unfold midR
  rw [List.take_of_length_le (Nat.le_refl _), List.drop_eq_nil_of_le (Nat.le_refl _), List.append_nil]
theorem mem_flat {rs : List (List Int)} {r : List Int} (h : r ∈ rs) : r.length ≤ ((rs.map (10 :: ·)).flatten).length := by
  induction rs with
  | nil => cases h
  | cons p rs ih =>
    simp only [List.map_cons, List.flatten_cons, List.length_append, List.length_cons]
    rcases List.mem_cons.1 h with rfl | h
    · omega
    · have := ih h
      omega
theorem mem_joinR {rs : List (List Int)} {r : List Int} (h : r ∈ rs) : r.length ≤ (joinR rs).length := by
  cases rs with
  | nil => cases h
  | cons q rs =>
    simp only [joinR, List.length_append]
    rcases List.mem_cons.1 h with rfl | h
    · omega
    · have := mem_flat h
      omega
theorem txt_size5 (t : List Int) : (runesBytes t).size ≤ 4 * t.length := by
  rw [txt_size]
  induction t with
  | nil => exact Nat.le_refl _
  | cons c l ih => show (Utf.enc c ++ Utf.bytes l).length ≤ _; have := (Utf.enc_length c).2; rw [List.length_append, List.length_cons]; omega
theorem blanks_txt (r : List Int) : (⟨#[32, 32]⟩ : ByteArray) ++ runesBytes r = runesBytes (32 :: 32 :: r) := by
  rw [show (⟨#[32, 32]⟩ : ByteArray) = runesBytes [32, 32] by decide, txt_append]
  rfl
set_option maxRecDepth 100000 in
set_option maxHeartbeats 4000000 in
theorem shifted_any (s : ByteArray) (b cap lo hi : Nat) (line : Bool) (key : Int) (w : World) (hT : Tabs w) (hM : Mx w) (hm : mayB s = true) (hA : Rn w (some ⟨b, 0, none⟩) (rs s).length (rs s)) (hcap : (rs s).length ≤ cap) (h1 : lo ≤ hi) (h2 : hi ≤ (rs s).length) (hkey : key = 62 ∨ key = 60) :
    Calls Tryd.prog 26 #[.string s, .slice (some ⟨b, 0, none⟩) (rs s).length cap, rngV lo hi line, .int .i64 key] w fun e w' => (∃ (a d : Int) (p : ByteArray) (x : Int) (tk : ByteArray) (E : Int), e = .returned (chgQ a d p x tk E) ∧ ShV s lo hi key (chgQ a d p x tk E)) ∧ Kept (fun _ => False) w w' := by
  have hka : Kept (fun _ => False) w ((w.alloc (rngO lo hi line)).alloc zeroQ) := ((Kept.refl _ w).alloc _).alloc _
  have hI0 : OfI lo hi line b w.heap.size (rs s) ((w.alloc (rngO lo hi line)).alloc zeroQ) := ⟨hT.kept hka id id, hA.kept hka (fun _ _ => id), heap_two' w _ _, heap_two'' w _ _⟩
  have HI0 := Lib.hid hI0
  have HKA := Lib.hid hka
  have HM0 := Lib.hid (hM.kept hka)
  have hsm := mayB_size hm
  have hl4 : (rs s).length ≤ 4000 := by have := rs_len s; omega
  have hlo : lo ≤ (rs s).length := Nat.le_trans h1 h2
  have hb1 := Rw.beg_le (rs s) lo
  have he1 := Rw.en_ge (rs s) hi
  have he2 := Rw.en_le (rs s) hi h2
  have hzv := shZ_vld (lo := lo) (hi := hi) (key := key) (rs_vld hm)
  have hzl := shZ_len (rs s) lo hi key
  have hzr : rs (runesBytes (shZ (rs s) lo hi key)) = shZ (rs s) lo hi key := rs_txt hzv
  have hzb : Rw.beg (rs s) lo ≤ (shZ (rs s) lo hi key).length := by unfold shZ; rw [List.length_append, List.length_take]; omega
  have hzs := txt_size5 (shZ (rs s) lo hi key)
  have cR1 := fun W hW => row_any (some ⟨b, 0, none⟩) (rs s).length cap (rs s) lo W hW hlo (by omega)
  have cR2 := fun W hW => row_any (some ⟨b, 0, none⟩) (rs s).length cap (rs s) hi W hW h2 (by omega)
  have cK := fun W hW => check_any (runesBytes (shZ (rs s) lo hi key)) W (by omega) hW
  have cB := fun W hW (hmz : mayB (runesBytes (shZ (rs s) lo hi key)) = true) => chbetween_yes s (runesBytes (shZ (rs s) lo hi key)) W hW hm hmz
  have cF := fun W hW (hmz : mayB (runesBytes (shZ (rs s) lo hi key)) = true) => chfirst_yes (runesBytes (shZ (rs s) lo hi key)) (Rw.beg (rs s) lo) W hW hmz (by rw [hzr]; exact hzb)
  rw [hzr] at cB cF
  have hvu : Vld (((rs s).take (Rw.en (rs s) hi)).drop (Rw.beg (rs s) lo)) := fun x hx => rs_vld hm x (List.mem_of_mem_take (List.mem_of_mem_drop hx))
  have HZE : Hid (shZ (rs s) lo hi key = (rs s).take (Rw.beg (rs s) lo) ++ (joinR ((rowsOf (((rs s).take (Rw.en (rs s) hi)).drop (Rw.beg (rs s) lo))).map (shR key)) ++ (rs s).drop (Rw.en (rs s) hi))) := rfl
  have HPN : Hid (mayB (runesBytes (shZ (rs s) lo hi key)) = false → ShV s lo hi key (chgQ 0 0 ⟨#[]⟩ 0 ⟨#[]⟩ 4)) := fun h => ⟨fun h' => (by rw [h] at h'; cases h'), fun _ => rfl⟩
  have HPY : Hid (mayB (runesBytes (shZ (rs s) lo hi key)) = true → ShV s lo hi key (chgQ (Rw.bat (rs s) (shZ (rs s) lo hi key) : Nat) (Rw.bdel (rs s) (shZ (rs s) lo hi key) : Nat) (runesBytes (Rw.bins (rs s) (shZ (rs s) lo hi key))) (Rw.rst (shZ (rs s) lo hi key) (Rw.fst (shZ (rs s) lo hi key) (Rw.beg (rs s) lo)) : Nat) ⟨#[]⟩ 0)) := fun h => ⟨fun _ => rfl, fun h' => (by rw [h] at h'; cases h')⟩
  generalize ShV s lo hi key = P at *
  unfold btw at cB
  generalize ((Rw.bat (rs s) (shZ (rs s) lo hi key) : Nat) : Int) = PA at *
  generalize ((Rw.bdel (rs s) (shZ (rs s) lo hi key) : Nat) : Int) = PD at *
  generalize runesBytes (Rw.bins (rs s) (shZ (rs s) lo hi key)) = PI at *
  generalize Rw.rst (shZ (rs s) lo hi key) (Rw.fst (shZ (rs s) lo hi key) (Rw.beg (rs s) lo)) = V at *
  generalize shZ (rs s) lo hi key = Z at *
  generalize hB : Rw.beg (rs s) lo = B at *
  generalize Rw.en (rs s) lo = E1 at *
  generalize hE : Rw.en (rs s) hi = E at *
  generalize Rw.beg (rs s) hi = B1 at *
  generalize rs s = t at *
  have HBL : Hid (t.length = 0 ∨ b < w.heap.size) := by
    by_cases h0 : t.length = 0
    · exact .inl h0
    · obtain ⟨ad, x, e, hx, hc⟩ := hA.cell (j := 0) (by omega)
      injection e with e
      subst e
      exact .inr (World.block_lt_of_cell? _ _ hc)
  have HCB := Lib.hid cB
  have HCF := Lib.hid cF
  have HCK := Lib.hid cK
  clear hT hM hm hA hka hI0 hsm hzv hzr cB cF cK hB hE
  obtain ⟨xb, hxb⟩ : ∃ xb, w.heap.size = xb := ⟨_, rfl⟩
  have HXB := Lib.hid hxb
  rw [hxb] at HI0 HBL
  clear hxb
  go_enter Tryd.func26, Tryd.ntmps26
  go_upto_region 1 with fail
  simp only [HXB.out]
  generalize (w.alloc (rngO lo hi line)).alloc zeroQ = W0 at *
  obtain ⟨a0, a1, a2⟩ := HI0.out.cells
  have c1 := cR1 W0 HI0.out.rn
  have c2 := cR2 W0 HI0.out.rn
  clear cR1 cR2
  have hBE : B ≤ E := by omega
  have hBEi : (B : Int) ≤ (E : Int) := by omega
  have hcU := fun u => run_cut_lh u (some ⟨b, 0, none⟩) t.length cap B E (B : Int) (E : Int) rfl rfl hBE (by omega)
  have htU := run_txt (c := cap - B) (HI0.out.rn.cut hBE he2 hcap)
  obtain ⟨u, hu⟩ : ∃ u, (t.take E).drop B = u := ⟨_, rfl⟩
  rw [hu] at htU hvu HZE
  have hul : u.length ≤ 4000 := by rw [← hu, List.length_drop, List.length_take]; omega
  have cS := split_any u W0 hvu (by omega) HM0.out
  have hrl := (rowsOf_all _ u (Nat.le_refl _)).2
  have hjl := joinR_len (shR key) (shR_len key) (rowsOf u)
  rw [(rowsOf_all _ u (Nat.le_refl _)).1] at hjl
  have HRV : Hid (∀ i r, (rowsOf u)[i]? = some r → Vld r ∧ r.length ≤ 4000) := fun i r h => by
    have hmem := List.mem_of_getElem? h
    refine ⟨fun x hx => hvu x (mem_rows hmem x hx), ?_⟩
    have := mem_joinR hmem
    rw [(rowsOf_all _ u (Nat.le_refl _)).1] at this
    omega
  generalize rowsOf u = rows at *
  generalize runesBytes u = RU at *
  clear hu hvu
  obtain ⟨sb, hsb⟩ : ∃ sb, W0.heap.size = sb := ⟨_, rfl⟩
  have hVL0 : (rows.map runesBytes).map Value.string = (midR rows key 0).map Value.string := by rw [midR_zero]
  generalize hVL : (rows.map runesBytes).map Value.string = VL at *
  have hnew := heap_alloc_new W0 (.cells VL.toArray 9)
  rw [hsb] at cS hnew
  have HSB := Lib.hid hsb
  have HW1 : Hid ((W0.alloc (.cells VL.toArray 9)).heap[sb]? = some (.cells ((midR rows key 0).map Value.string).toArray 9 (0, 0))) := by rw [← hVL0]; exact hnew
  have HI1 := Lib.hid (HI0.out.kept ((Kept.refl (fun _ => False) W0).alloc (.cells VL.toArray 9)))
  have HK1 := Lib.hid (HKA.out.alloc (.cells VL.toArray 9))
  have HX2 : Hid (xb + 1 < sb) := by have := heap_lt HI0.out.chg; show _ < _; omega
  clear hsb hnew hVL hVL0
  go_upto_region 4 with (first
    | (go_at_call 34; refine c1.mono ?_; rintro e w2 ⟨rfl, hw⟩; have hw3 := hw.symm; subst hw3; clear c1)
    | (go_at_call 34; refine c2.mono ?_; rintro e w2 ⟨rfl, hw⟩; have hw3 := hw.symm; subst hw3; clear c2)
    | (go_at_call 36; refine cS.mono ?_; rintro e w2 ⟨rfl, hw⟩; have hw3 := hw.symm; subst hw3; clear cS))
  generalize W0.alloc (.cells VL.toArray 9) = W1 at *
  clear hcU htU a0 a1 a2 hBEi
  generalize hN : rows.length = N at *
  have HN := Lib.hid hN
  clear hN
  go_wp2_with fail
  go_loopw [40] (fun v wr => ∃ i : Nat, i ≤ N ∧ v = .int .i64 i ∧ wr.heap[sb]? = some (.cells ((midR rows key i).map Value.string).toArray 9 (0, 0)) ∧ Kept (fun q => q = sb) W1 wr) (fun v _ => N - (intOf v).toNat)
  case atStart => exact ⟨0, Nat.zero_le _, rfl, HW1.out, Kept.refl _ _⟩
  case round =>
    obtain ⟨i, hi', rfl, hh, hkw⟩ := hrel
    have HH := Lib.hid hh
    have HKW := Lib.hid hkw
    clear hh hkw
    by_cases hlt : i < N
    · obtain ⟨r, hr⟩ : ∃ r, rows[i]? = some r := ⟨_, List.getElem?_eq_getElem (by have := HN.out; omega)⟩
      obtain ⟨hrv, hrl4⟩ := HRV.out i r hr
      have c0 : wr.cell? ⟨sb, i, none⟩ = some (.string (runesBytes r)) := by
        rw [cell_of_row _ _ _ _ _ _ HH.out, List.getElem?_toArray, List.getElem?_map, midR_at hr]
        rfl
      have f0 : wr.frozen? ⟨sb, i, none⟩ = false := frozen_of HH.out
      have HR := Lib.hid hr
      have b1 : decide (i < N) = true := by simp; omega
      have i0 : (0 : Int) ≤ (i : Int) := by omega
      have i1 : (i : Int) < (N : Int) := by omega
      clear hr
      rcases hkey with rfl | rfl
      · cases r with
        | nil =>
          have hnil : runesBytes [] = (⟨#[]⟩ : ByteArray) := by decide
          have HMK := Lib.hid (midR_keep (key := 62) HR.out (by decide))
          rw [hnil] at c0
          go_wp2
          go_roundw
          case rel => exact ⟨i + 1, by omega, by go_num, by rw [HMK.out]; exact HH.out, HKW.out⟩
          case measure => simp [intOf]; omega
        | cons x l =>
          have hne := row_some (l := l) (hrv x (by simp))
          have HMS := Lib.hid (midR_set (key := 62) HR.out)
          have hsh : shR 62 (x :: l) = 32 :: 32 :: x :: l := rfl
          have ad : ∀ u, (Op.stringOp .add ⟨#[32, 32]⟩ (runesBytes (x :: l))).run Tryd.prog u = .ok (.string (runesBytes (shR 62 (x :: l)))) u := fun u => by
            rw [hsh, ← blanks_txt]
            exact run_string_add_sum u _ _ (by have := txt_size5 (x :: l); rw [show (⟨#[32, 32]⟩ : ByteArray).size = 2 from rfl]; omega)
          clear hsh hrv
          generalize runesBytes (shR 62 (x :: l)) = RS at *
          generalize runesBytes (x :: l) = RR at *
          go_wp2
          go_roundw
          case rel => exact ⟨i + 1, by omega, by go_num, by rw [← HMS.out]; exact heap_set HH.out _, HKW.out.setCell (p := ⟨sb, i, none⟩) rfl _⟩
          case measure => simp [intOf]; omega
      · have cU := fun w => unblanked_any r w hrv (by omega)
        have HMS := Lib.hid (midR_set (key := 60) HR.out)
        have hsh : shR 60 r = stN 2 r := rfl
        rw [← hsh] at cU
        clear hsh hrv
        generalize runesBytes (shR 60 r) = RS at *
        generalize runesBytes r = RR at *
        go_wp2_with (go_at_call 37; refine (cU _).mono ?_; rintro e w2 ⟨rfl, hw⟩; have hw3 := hw.symm; subst hw3)
        go_roundw
        case rel => exact ⟨i + 1, by omega, by go_num, by rw [← HMS.out]; exact heap_set HH.out _, HKW.out.setCell (p := ⟨sb, i, none⟩) rfl _⟩
        case measure => simp [intOf]; omega
    · obtain rfl : i = N := by omega
      have b1 : decide (i < i) = false := by simp
      have hRr : Rn wr (some ⟨b, 0, none⟩) t.length t := by
        rcases HBL.out with h0 | h0
        · have ht : t = [] := List.eq_nil_of_length_eq_zero h0
          rw [ht]
          exact ⟨rfl, fun j x hj => by simp at hj⟩
        · exact HI1.out.rn.kept HKW.out (fun a e => by injection e with e; rw [← e]; have := HX2.out; show ¬ b = sb; omega)
      have hTr : Tabs wr := HI1.out.tabs.kept HKW.out (show ¬ 0 = sb by have := HX2.out; omega) (show ¬ 1 = sb by
        have c2 : W0.cell? ⟨1, 0, none⟩ = some (.int .u8 (Lib.accLo 0)) := (HI0.out.tabs.2 0 (by omega)).1
        have h1 : (1 : Nat) < W0.heap.size := World.block_lt_of_cell? _ _ c2
        have := HSB.out
        show ¬ 1 = sb
        omega)
      have HIr : Hid (OfI lo hi line b xb t wr) := ⟨hTr, hRr, (HKW.out.block _ (heap_lt HI1.out.rng) (show ¬ xb = sb by have := HX2.out; omega)).trans HI1.out.rng, (HKW.out.block _ (heap_lt HI1.out.chg) (show ¬ xb + 1 = sb by have := HX2.out; omega)).trans HI1.out.chg⟩
      have HKr : Hid (Kept (fun _ => False) w wr) := HK1.out.fresh HKW.out (fun q hq (e : q = sb) => by have := HX2.out; have := HXB.out; omega)
      have hcA := fun u => run_cut_h u (some ⟨b, 0, none⟩) t.length cap B (B : Int) rfl (by omega)
      have hcC := fun u => run_cut_l u (some ⟨b, 0, none⟩) t.length cap E (E : Int) rfl he2 hcap
      have HRA : Hid (∀ W, OfI lo hi line b xb t W → Rn W (cutB (some ⟨b, 0, none⟩) cap 0) B (t.take B)) := fun W h => by rw [cutB_zero]; exact h.rn.take (by omega)
      have HRC : Hid (∀ W, OfI lo hi line b xb t W → Rn W (cutB (some ⟨b, 0, none⟩) cap E) (t.length - E) (t.drop E)) := fun W h => h.rn.drop he2 hcap
      generalize cutB (some ⟨b, 0, none⟩) cap 0 = CA at *
      generalize cutB (some ⟨b, 0, none⟩) cap E = CC at *
      have HKS : Hid (∀ W, OfI lo hi line b xb t W → (convert 30 9 (.slice CA B cap)).run Tryd.prog W = .ok (.string (runesBytes (t.take B))) W ∧ (convert 30 9 (.slice CC (t.length - E) (cap - E))).run Tryd.prog W = .ok (.string (runesBytes (t.drop E))) W) := fun W h => ⟨run_txt (HRA.out W h), run_txt (HRC.out W h)⟩
      have hsA := txt_size5 (t.take B)
      have hsC := txt_size5 (t.drop E)
      have hsJ := txt_size5 (joinR (rows.map (shR key)))
      rw [List.length_take] at hsA
      rw [List.length_drop] at hsC
      have HTX : Hid (runesBytes (t.take B) ++ runesBytes (joinR (rows.map (shR key))) ++ runesBytes (t.drop E) = runesBytes Z) := by show _ = _; rw [txt_append, txt_append, HZE.out, List.append_assoc]
      have hhN : wr.heap[sb]? = some (.cells (((rows.map (shR key)).map runesBytes).map Value.string).toArray 9 (0, 0)) := by
        have h := HH.out
        rw [← HN.out, midR_end] at h
        exact h
      have hNl : (rows.map (shR key)).length = i := by rw [List.length_map]; exact HN.out
      have cJ := join_any' sb i (rows.map (shR key)) wr.drew (fun j x h => by
        show wr.cell? ⟨sb, j, none⟩ = some (.string x)
        rw [cell_of_row _ _ _ _ _ _ hhN, List.getElem?_toArray, List.getElem?_map, h]
        rfl) (heap_lt hhN) (by omega) (by omega) (by omega)
      rw [hNl] at cJ
      generalize joinR (rows.map (shR key)) = JJ at *
      generalize runesBytes JJ = JN at *
      generalize runesBytes (t.take B) = SA at *
      generalize runesBytes (t.drop E) = SC at *
      generalize hNX : runesBytes Z = NX at *
      have ad1 : ∀ u, (Op.stringOp .add SA JN).run Tryd.prog u = .ok (.string (SA ++ JN)) u := fun u => run_string_add_sum u SA JN (by omega)
      have ad2 : ∀ u, (Op.stringOp .add (SA ++ JN) SC).run Tryd.prog u = .ok (.string NX) u := fun u => by rw [← HTX.out]; exact run_string_add_sum u (SA ++ JN) SC (by rw [ByteArray.size_append]; omega)
      have hId := HIr.out.drew
      have K1 := HKS.out _ hId
      clear hTr hRr hhN hNl
      go_upto_region 12 with fail
      go_cut [17] from 60 to 71 (fun v wx => v = .string NX ∧ OfI lo hi line b xb t wx ∧ Kept (fun _ => False) wr wx)
      case first =>
        go_region_held3 (fun w' => (convert 30 9 (.slice CA B cap)).run Tryd.prog w' = .ok (.string SA) w' ∧ (convert 30 9 (.slice CC (t.length - E) (cap - E))).run Tryd.prog w' = .ok (.string SC) w') (first | with_reducible exact K2 | with_reducible exact K1)
          ((go_at_call 38; refine cJ.mono ?_; rintro e w2 ⟨rfl, hk2⟩; have hI2 := hId.kept hk2; have K2 := HKS.out _ hI2))
        all_goals
          go_wp2_with fail
          go_meet
          exact ⟨rfl, hI2, (Kept.refl _ wr).drew.trans hk2⟩
      case rest =>
        obtain ⟨rfl, hIc, hkc⟩ := hcut
        have HIC := Lib.hid hIc
        have HKC := Lib.hid (HKr.out.trans hkc)
        have cK := HCK.out wc hIc.tabs
        clear K1 cJ hId hkc hIc hcA hcC ad1 ad2
        by_cases hmz : mayB NX = true
        · rw [hmz] at cK
          have HY := Lib.hid (HPY.out hmz)
          have HMZ := Lib.hid hmz
          clear hmz
          go_wp2_with (first
            | (go_at_call 32; refine cK.mono ?_; rintro e w3 ⟨rfl, hk3⟩; have HI3 := Lib.hid (HIC.out.kept hk3); have HK3 := Lib.hid (HKC.out.trans hk3); clear hk3 cK)
            | (go_at_call 28; refine (HCB.out _ HI3.out.tabs HMZ.out).mono ?_; rintro e w4 ⟨rfl, hk4⟩; have HI4 := Lib.hid (HI3.out.kept hk4); have HK4 := Lib.hid (HK3.out.trans hk4); clear hk4)
            | (go_at_call 35; refine (HCF.out _ HI4.out.tabs HMZ.out).mono ?_; rintro e w5 ⟨rfl, hk5⟩; have HI5 := Lib.hid (HI4.out.kept hk5); have HK5 := Lib.hid (HK4.out.trans hk5); obtain ⟨⟨c0, c1, c2, c3, c4, c5⟩, k0, k1, k2, k3, k4, k5⟩ := chg_facts HI5.out.chg; clear hk5))
          refine bodyPost_ret (res_chg rfl _ _ (xb + 1) _ _ _ _ _ _ (0, 0) rfl (chg_six HI5.out.chg _ _ _ _ _ _)) rfl ⟨⟨PA, PD, PI, V, ⟨#[]⟩, 0, rfl, HY.out⟩, ?_⟩
          exact HK5.out.fresh (Kept.six (Kept.refl (fun q => q = xb + 1) _) rfl _ _ _ _ _ _) (fun b hb e => by have := HXB.out; omega)
        · have hmz' : mayB NX = false := by simpa using hmz
          rw [hmz'] at cK
          have HY := Lib.hid (HPN.out hmz')
          clear hmz hmz'
          go_wp2_with (go_at_call 32; refine cK.mono ?_; rintro e w3 ⟨rfl, hk3⟩; have HI3 := Lib.hid (HIC.out.kept hk3); have HK3 := Lib.hid (HKC.out.trans hk3); obtain ⟨⟨c0, c1, c2, c3, c4, c5⟩, k0, k1, k2, k3, k4, k5⟩ := chg_facts HI3.out.chg; clear hk3 cK)
          refine bodyPost_ret (res_chg rfl _ _ (xb + 1) _ _ _ _ _ _ (0, 0) rfl (chg_six HI3.out.chg _ _ _ _ _ _)) rfl ⟨⟨0, 0, ⟨#[]⟩, 0, ⟨#[]⟩, 4, rfl, HY.out⟩, ?_⟩
          exact HK3.out.fresh (Kept.six (Kept.refl (fun q => q = xb + 1) _) rfl _ _ _ _ _ _) (fun b hb e => by have := HXB.out; omega)
end Go.Proofs.YtpgoikecignldaaDoor
