/-
  PUT: what is put of one text into another, once: by P a piece of a row, by p whole rows.
-/
import Derived.Test.YtilkogohiealhaaDoorPB9
import Derived.Test.YtilkogohiealhaaDoorShelf2
import Derived.Shelf.Utf8.RuneCount
import Derived.Shelf.Strings.Search3
import Derived.BigQuiet
import Derived.Lib.IndexAny
import Derived.Deep.CutRange
set_option linter.unusedVariables false
namespace Go.Proofs.YtilkogohiealhaaDoor
open Go Go.RowKit

theorem count_from (s : ByteArray) : ∀ (b pos : Nat), s.size ≤ pos + b → Lib.runeCountFrom s b pos = (Utf.runes (s.data.toList.drop pos)).length
  | 0, pos, h => by rw [rune_end s pos (by omega)]; rfl
  | b + 1, pos, h => by
    by_cases hp : pos < s.size
    · have hw := Lib.decode_width_pos s pos hp
      have ih := count_from s b (pos + (Utf8.decode s pos).2) (by omega)
      have e : Lib.runeCountFrom s (b + 1) pos = 1 + Lib.runeCountFrom s b (pos + (Utf8.decode s pos).2) := by
        rw [Lib.runeCountFrom, if_pos hp]
      rw [rune_at s pos hp, List.length_cons, ← ih, e]
      omega
    · rw [rune_end s pos hp, Lib.runeCountFrom_end s _ pos hp]; rfl
theorem rcount_any (s : ByteArray) (w : World) (hs : s.size ≤ 1000000) : Calls Tryd.prog 36 #[.string s] w fun e w' => e = .returned (.int .i64 (rs s).length) ∧ Kept (fun _ => False) w w' := by
  have h := Any.utf8_RuneCountInString Tryd.lays195 s w (by omega)
  have e : Lib.runeCount s = (rs s).length := by
    have := count_from s s.size 0 (by omega)
    exact this
  rw [e] at h
  exact h.mono fun e w' ⟨he, pos, hw⟩ => ⟨he, by rw [hw]; exact (Kept.refl _ w).alloc _⟩
set_option maxRecDepth 100000 in
theorem plen_yes (s : ByteArray) (w : World) (hT : Tabs w) (hm : mayB s = true) :
    Calls Tryd.prog 23 #[.string s] w fun e w' => e = .returned (.tuple #[.int .i64 (rs s).length, .int .i64 0]) ∧ Kept (fun _ => False) w w' := by
  have hsz := mayB_size hm
  have cC := check_any s w (by omega) hT
  rw [hm] at cC
  have cN := fun W => rcount_any s W (by omega)
  clear hT hm
  go_enter Tryd.func23, Tryd.ntmps23
  go_wp2_with (first
    | (go_at_call 35; refine cC.mono ?_; rintro e w1 ⟨rfl, hk1⟩)
    | (go_at_call 36; refine (cN _).mono ?_; rintro e w2 ⟨rfl, hk2⟩))
  exact bodyPost_ret (v := .tuple #[.int .i64 (rs s).length, .int .i64 0]) (by simp [results, Tryd.results23, go_sem]) rfl ⟨rfl, hk1.trans hk2⟩
theorem pcontains_ten (s : ByteArray) (w : World) (h : ∀ b ∈ s.data.toList, b ≠ 10) : Calls Tryd.prog 29 #[.string s, .string ⟨#[10]⟩] w fun e w' => e = .returned (.bool false) ∧ w' = w := by
  have c := Any.strings_Contains_one Tryd.lays144 s 10 w
  rw [← Lib.contains_iff_indexByte, show s.data.toList.contains 10 = false by
    rw [List.contains_eq_mem]
    simp only [decide_eq_false_iff_not]
    exact fun hm => h 10 hm rfl] at c
  exact c
theorem repeat1 (s : ByteArray) (w : World) : Calls Tryd.prog 25 #[.string s, .int .i64 1] w fun e w' => e = .returned (.string s) ∧ w' = w := by
  go_enter Tryd.func25, Tryd.ntmps25
  go_wp2
  go_ret
  exact ⟨rfl, rfl⟩
set_option maxRecDepth 100000 in
theorem pfirst_yes (s : ByteArray) (k : Nat) (w : World) (hT : Tabs w) (hm : mayB s = true) (hk : k ≤ (rs s).length) :
    Calls Tryd.prog 27 #[.string s, .int .i64 k] w fun e w' => (∃ x : Int, e = .returned (.int .i64 x)) ∧ Kept (fun _ => False) w w' := by
  have hsz := mayB_size hm
  have hl := rs_len s
  obtain ⟨cap, w2, hcap, hcv, hk2, hlt, hR⟩ := conv_rs s w (by omega)
  have hf : Rw.fst (rs s) k ≤ (rs s).length := Nat.le_trans (Rw.fst_le _ _ hk) (Rw.en_le _ _ hk)
  have cF := first_any _ _ cap _ k w2 hR (rs_runey (mayB_valid hm)) hk (by omega)
  have cR := rest_yes s (Rw.fst (rs s) k) w2 (hT.kept hk2 id id) hm hf
  have HK2 := Lib.hid hk2
  generalize Rw.fst (rs s) k = F at *
  generalize rs s = t at *
  generalize Rw.rst t F = V at *
  clear hT hm hR hk2
  go_enter Tryd.func27, Tryd.ntmps27
  go_wp2_with (first | (go_at_call 43; refine cF.mono ?_; rintro e w1 ⟨rfl, rfl⟩) | (go_at_call 28; refine cR.mono ?_; rintro e w3 ⟨rfl, hk3⟩))
  go_ret
  exact ⟨⟨_, rfl⟩, HK2.out.trans hk3⟩
abbrev regV (nm : Int) (tk : ByteArray) (line : Bool) : Value := .agg #[.int .i64 nm, .string tk, .bool line]
abbrev regO (nm : Int) (tk : ByteArray) (line : Bool) : Obj := .cells #[.int .i64 nm, .string tk, .bool line] 43
theorem reg_facts {w : World} {g : Nat} {nm : Int} {tk : ByteArray} {line : Bool} (h : w.heap[g]? = some (regO nm tk line)) : w.cell? ⟨g, 0, none⟩ = some (.int .i64 nm) ∧ w.cell? ⟨g, 1, none⟩ = some (.string tk) ∧ w.cell? ⟨g, 2, none⟩ = some (.bool line) :=
  ⟨by rw [cell_of_row _ _ _ _ _ _ h]; rfl, by rw [cell_of_row _ _ _ _ _ _ h]; rfl, by rw [cell_of_row _ _ _ _ _ _ h]; rfl⟩
/-- What is put. -/
def ptN (t : List Int) (k : Nat) (u : List Int) : List Int := t.take k ++ u ++ t.drop k
theorem ptN_len (t u : List Int) (k : Nat) : (ptN t k u).length = t.length + u.length := by
  have := congrArg List.length (List.take_append_drop k t)
  unfold ptN
  simp only [List.length_append] at *
  omega
theorem ptN_vld {t u : List Int} {k : Nat} (ht : Vld t) (hu : Vld u) : Vld (ptN t k u) := fun r hr => by
  unfold ptN at hr
  rcases List.mem_append.1 hr with hr | hr
  · rcases List.mem_append.1 hr with hr | hr
    · exact ht r (List.mem_of_mem_take hr)
    · exact hu r hr
  · exact ht r (List.mem_of_mem_drop hr)
theorem ptN_zero {t u : List Int} {k : Nat} (ht : (0 : Int) ∉ t) (hu : (0 : Int) ∉ u) : (0 : Int) ∉ ptN t k u := fun hr => by
  unfold ptN at hr
  rcases List.mem_append.1 hr with hr | hr
  · rcases List.mem_append.1 hr with hr | hr
    · exact ht (List.mem_of_mem_take hr)
    · exact hu hr
  · exact ht (List.mem_of_mem_drop hr)
theorem ptN_bytes (t u : List Int) (k : Nat) : (Utf.bytes (ptN t k u)).length = (Utf.bytes t).length + (Utf.bytes u).length := by
  have := congrArg (fun l => (Utf.bytes l).length) (List.take_append_drop k t)
  simp only [Utf.bytes_append, List.length_append] at this
  unfold ptN
  rw [Utf.bytes_append, Utf.bytes_append, List.length_append, List.length_append]
  omega
theorem ptN_may {s : ByteArray} {u : List Int} {k : Nat} (hm : mayB s = true) (hu : Vld u) (h0 : (0 : Int) ∉ u) (hsz : s.size + (runesBytes u).size ≤ 4000) : mayB (runesBytes (ptN (rs s) k u)) = true := by
  rw [may_txt (ptN_vld (rs_vld hm) hu) (ptN_zero (rs_zero hm) h0), decide_eq_true_iff, ptN_bytes]
  have e := congrArg ByteArray.size (txt_rs hm)
  rw [txt_size] at e hsz
  omega
theorem ptN_txt (t u : List Int) (k : Nat) : runesBytes (t.take k) ++ runesBytes u ++ runesBytes (t.drop k) = runesBytes (ptN t k u) := by
  rw [txt_append, txt_append]
  rfl
/-- What is told of a text and what comes. -/
def PutR (s : ByteArray) (N : List Int) (e : Ending) : Prop := ∃ x : Int, e = .returned (chgT (Rw.bat (rs s) N : Nat) (Rw.bdel (rs s) N : Nat) (runesBytes (Rw.bins (rs s) N)) x ⟨#[]⟩ 0)
structure PuI (tk : ByteArray) (line : Bool) (xb : Nat) (W : World) : Prop where
  tabs : Tabs W
  reg : W.heap[xb]? = some (regO 0 tk line)
  chg : W.heap[xb + 1]? = some zeroS
theorem PuI.kept {tk : ByteArray} {line : Bool} {xb : Nat} {W W' : World} (h : PuI tk line xb W) (hk : Kept (fun _ => False) W W') : PuI tk line xb W' :=
  ⟨h.tabs.kept hk id id, (hk.block _ (heap_lt h.reg) id).trans h.reg, (hk.block _ (heap_lt h.chg) id).trans h.chg⟩
theorem PuI.drewN {tk : ByteArray} {line : Bool} {xb : Nat} {W : World} (h : PuI tk line xb W) (q : Nat) : PuI tk line xb (W.drewN q) := ⟨h.tabs, h.reg, h.chg⟩
set_option maxRecDepth 100000 in
set_option maxHeartbeats 2000000 in
theorem put_P (s : ByteArray) (u : List Int) (k : Nat) (w : World) (hT : Tabs w) (hm : mayB s = true) (hu : Vld u) (hu0 : (0 : Int) ∉ u) (hk : k ≤ (rs s).length) (hsz : s.size + (runesBytes u).size ≤ 4000) (hn : 1 ≤ u.length) (h10 : (10 : Int) ∉ u) :
    Calls Tryd.prog 8 #[.string s, .int .i64 k, regV 0 (runesBytes u) false, .int .i64 80, .int .i64 1] w fun e w' => PutR s (ptN (rs s) k u) e ∧ Kept (fun _ => False) w w' := by
  have hka : Kept (fun _ => False) w ((w.alloc (regO 0 (runesBytes u) false)).alloc zeroS) := ((Kept.refl _ w).alloc _).alloc _
  have hI0 : PuI (runesBytes u) false w.heap.size ((w.alloc (regO 0 (runesBytes u) false)).alloc zeroS) := ⟨hT.kept hka id id, heap_two' w _ _, heap_two'' w _ _⟩
  have hmt : mayB (runesBytes u) = true := by rw [may_txt hu hu0, decide_eq_true_iff, ← txt_size]; omega
  have hmx := ptN_may (k := k) hm hu hu0 hsz
  have hxr : rs (runesBytes (ptN (rs s) k u)) = ptN (rs s) k u := rs_txt (ptN_vld (rs_vld hm) hu)
  have hno : ∀ b ∈ (runesBytes u).data.toList, b ≠ 10 := by rw [txt_list]; exact bytes_ten hu h10
  have hsz4 := mayB_size hm
  have hl4 : (rs s).length ≤ 4000 := by have := rs_len s; omega
  have hul : u.length ≤ 4000 := by have h1 := rs_len (runesBytes u); rw [rs_txt hu] at h1; omega
  have cR := runes_cap s k _ hI0.tabs hm hk
  have cL := fun W hW => plen_yes (runesBytes u) W hW hmt
  rw [rs_txt hu] at cL
  have cRow := fun b cap W hW => row_any (some ⟨b, 0, none⟩) (rs s).length cap (rs s) k W hW hk (by omega)
  have cRp := fun W => repeat1 (runesBytes u) W
  have cC := fun W => pcontains_ten (runesBytes u) W hno
  have cB := fun W hW => between_yes s (runesBytes (ptN (rs s) k u)) W hW hm hmx
  rw [hxr] at cB
  unfold btw at cB
  have HTX := Lib.hid (ptN_txt (rs s) u k)
  have hsA : (runesBytes ((rs s).take k)).size ≤ 4000 := txt_le (List.take_sublist _ _) (by have := rs_bytes hm; omega)
  have hsC : (runesBytes ((rs s).drop k)).size ≤ 4000 := txt_le (List.drop_sublist _ _) (by have := rs_bytes hm; omega)
  have HP : Hid (∀ x : Int, PutR s (ptN (rs s) k u) (.returned (chgT (Rw.bat (rs s) (ptN (rs s) k u) : Nat) (Rw.bdel (rs s) (ptN (rs s) k u) : Nat) (runesBytes (Rw.bins (rs s) (ptN (rs s) k u))) x ⟨#[]⟩ 0))) := fun x => ⟨x, rfl⟩
  unfold chgT at HP
  generalize PutR s (ptN (rs s) k u) = PR at *
  generalize ((Rw.bat (rs s) (ptN (rs s) k u) : Nat) : Int) = PA at *
  generalize ((Rw.bdel (rs s) (ptN (rs s) k u) : Nat) : Int) = PD at *
  generalize runesBytes (Rw.bins (rs s) (ptN (rs s) k u)) = PI at *
  generalize runesBytes (ptN (rs s) k u) = NX at *
  generalize Rw.beg (rs s) k = B at *
  generalize Rw.en (rs s) k = En at *
  generalize rs s = t at *
  generalize u.length = n at *
  generalize runesBytes u = tk at *
  have HCB := Lib.hid cB
  have HCL := Lib.hid cL
  have HCC := Lib.hid cC
  have HKA := Lib.hid hka
  have HI0 := Lib.hid hI0
  obtain ⟨xb, hxb⟩ : ∃ xb, w.heap.size = xb := ⟨_, rfl⟩
  have HXB := Lib.hid hxb
  rw [hxb] at HI0
  clear hxb hT hka hI0 hm hmt hmx hxr hno cB cL cC hu hu0 h10
  go_enter Tryd.func8, Tryd.ntmps8
  go_upto_region 1 with fail
  simp only [HXB.out]
  generalize (w.alloc (regO 0 tk false)).alloc zeroS = W0 at *
  go_upto_region 2 with (go_at_call 22; refine cR.mono ?_; rintro e w1 ⟨hk1, b, cap, rfl, hb, hcap, hR⟩; have HK1 := Lib.hid (HKA.out.trans hk1); have HI1 := Lib.hid (HI0.out.kept hk1); have HR1 := Lib.hid hR; clear hk1 hR cR)
  obtain ⟨r0, r1, r2⟩ := reg_facts HI1.out.reg
  go_upto_region 3 with (go_at_call 23; refine (HCL.out _ HI1.out.tabs).mono ?_; rintro e w2 ⟨rfl, hk2⟩; have HK2 := Lib.hid (HK1.out.trans hk2); have HI2 := Lib.hid (HI1.out.kept hk2); have HR2 := Lib.hid (HR1.out.kept hk2 (fun _ _ => id)); clear hk2 r0 r1 r2)
  obtain ⟨r0, r1, r2⟩ := reg_facts HI2.out.reg
  have cO := cRow b cap w2 HR2.out
  clear cRow
  go_upto_region 7 with (go_at_call 24; refine cO.mono ?_; rintro e w' ⟨rfl, hw⟩; have hw2 := hw.symm; subst hw2; clear cO)
  have wm : IntKind.i64.wrap (1 * (tk.size : Int)) = (tk.size : Int) := by rw [Int.one_mul]; exact IntWalk.i64_in _ ⟨by omega, by omega⟩
  have wa : IntKind.i64.wrap ((s.size : Int) + (tk.size : Int)) = (s.size : Int) + (tk.size : Int) := IntWalk.i64_in _ ⟨by omega, by omega⟩
  have d1 : decide ((4000 : Int) < (s.size : Int) + (tk.size : Int)) = false := decide_eq_false (by omega)
  go_upto_region 15 with fail
  clear d1 wm wa
  have hcA := fun v => run_cut_h v (some ⟨b, 0, none⟩) t.length cap k (k : Int) rfl (by omega)
  have hcC := fun v => run_cut_l v (some ⟨b, 0, none⟩) t.length cap k (k : Int) rfl hk hcap
  have hRA : Rn w2 (cutB (some ⟨b, 0, none⟩) cap 0) k (t.take k) := by rw [cutB_zero]; exact HR2.out.take (by omega)
  have hRC : Rn w2 (cutB (some ⟨b, 0, none⟩) cap k) (t.length - k) (t.drop k) := HR2.out.drop hk hcap
  generalize cutB (some ⟨b, 0, none⟩) cap 0 = CA at *
  generalize cutB (some ⟨b, 0, none⟩) cap k = CC at *
  have htA : ∀ r, (convert 30 9 (.slice CA k cap)).run Tryd.prog (w2.drewN r) = .ok (.string (runesBytes (t.take k))) (w2.drewN r) := fun r => run_txt (w := w2.drewN r) hRA
  have htC : ∀ r, (convert 30 9 (.slice CC (t.length - k) (cap - k))).run Tryd.prog (w2.drewN r) = .ok (.string (runesBytes (t.drop k))) (w2.drewN r) := fun r => run_txt (w := w2.drewN r) hRC
  generalize runesBytes (t.take k) = SA at *
  generalize runesBytes (t.drop k) = SC at *
  have ad1 : ∀ v, (Op.stringOp .add SA tk).run Tryd.prog v = .ok (.string (SA ++ tk)) v := fun v => run_string_add_sum v SA tk (by omega)
  have ad2 : ∀ v, (Op.stringOp .add (SA ++ tk) SC).run Tryd.prog v = .ok (.string NX) v := fun v => by rw [← HTX.out]; exact run_string_add_sum v (SA ++ tk) SC (by rw [ByteArray.size_append]; omega)
  clear hRA hRC
  go_quiet (exact Calls.quiet_of_same (cRp _))
  clear htA htC ad1 ad2 hcA hcC r0 r1 r2
  go_upto_region 16 with fail
  generalize hw3 : w2.drewN _ = w3
  have HK3 : Hid (Kept (fun _ => False) w w3) := by rw [← hw3]; exact HK2.out.drewN _
  have HI3 : Hid (PuI tk false xb w3) := by rw [← hw3]; exact HI2.out.drewN _
  clear hw3 HK2 HI2 HR2 HR1 HI1 HK1
  have HYA : Hid ((w3.alloc (chgO 0 0 ⟨#[]⟩ k ⟨#[]⟩ false)).heap[w3.heap.size]? = some (chgO 0 0 ⟨#[]⟩ k ⟨#[]⟩ false)) := heap_alloc_new w3 _
  have HK4 : Hid (Kept (fun _ => False) w (w3.alloc (chgO 0 0 ⟨#[]⟩ k ⟨#[]⟩ false))) := HK3.out.alloc _
  have HI4 : Hid (PuI tk false xb (w3.alloc (chgO 0 0 ⟨#[]⟩ k ⟨#[]⟩ false))) := HI3.out.kept ((Kept.refl _ w3).alloc _)
  have HYX : Hid (xb + 1 < w3.heap.size) := heap_lt HI3.out.chg
  go_upto_region 17 with fail
  generalize w3.alloc (chgO 0 0 ⟨#[]⟩ k ⟨#[]⟩ false) = w4 at *
  generalize w3.heap.size = yb at *
  go_upto_region 18 with (go_at_call 26; refine (HCB.out _ HI4.out.tabs).mono ?_; rintro e w5 ⟨rfl, hk5⟩; have HK5 := Lib.hid (HK4.out.trans hk5); have HI5 := Lib.hid (HI4.out.kept hk5); have HY5 := Lib.hid ((hk5.block yb (heap_lt HYA.out) id).trans HYA.out); obtain ⟨⟨c0, c1, c2, c3, c4, c5⟩, k0, k1, k2, k3, k4, k5⟩ := chg_facts HY5.out; clear hk5)
  have HY6 := Lib.hid (chg_three HY5.out PA PD PI)
  have HK6 : Hid (Kept (fun q => q = yb) w5 (((w5.setCell ⟨yb, 0, none⟩ (.int .i64 PA)).setCell ⟨yb, 1, none⟩ (.int .i64 PD)).setCell ⟨yb, 2, none⟩ (.string PI))) := (((Kept.refl (fun b => b = yb) w5).setCell (p := ⟨yb, 0, none⟩) rfl _).setCell (p := ⟨yb, 1, none⟩) rfl _).setCell (p := ⟨yb, 2, none⟩) rfl _
  have HK7 : Hid (Kept (fun q => q = yb ∨ q = xb + 1) w5 (((w5.setCell ⟨yb, 0, none⟩ (.int .i64 PA)).setCell ⟨yb, 1, none⟩ (.int .i64 PD)).setCell ⟨yb, 2, none⟩ (.string PI))) := (((Kept.refl (fun b => b = yb ∨ b = xb + 1) w5).setCell (p := ⟨yb, 0, none⟩) (.inl rfl) _).setCell (p := ⟨yb, 1, none⟩) (.inl rfl) _).setCell (p := ⟨yb, 2, none⟩) (.inl rfl) _
  clear c0 c1 c2 c3 c4 c5 k0 k1 k2 k3 k4 k5
  generalize (((w5.setCell ⟨yb, 0, none⟩ (.int .i64 PA)).setCell ⟨yb, 1, none⟩ (.int .i64 PD)).setCell ⟨yb, 2, none⟩ (.string PI)) = w6 at *
  have hg0 := (HK6.out.block xb (heap_lt HI5.out.reg) (fun e => by have := HYX.out; omega)).trans HI5.out.reg
  have hg1 := (HK6.out.block (xb + 1) (heap_lt HI5.out.chg) (fun e => by have := HYX.out; omega)).trans HI5.out.chg
  have HG1 := Lib.hid hg1
  clear hg1
  obtain ⟨r0, r1, r2⟩ := reg_facts hg0
  obtain ⟨⟨c0, c1, c2, c3, c4, c5⟩, k0, k1, k2, k3, k4, k5⟩ := chg_facts HY6.out
  obtain ⟨⟨d0, d1, d2, d3, d4, d5⟩, e0, e1, e2, e3, e4, e5⟩ := chg_facts HG1.out
  have bn : ((n : Int) == 0) = false := by rw [beq_eq_false_iff_ne]; omega
  have hne1 : ¬ xb + 1 = yb := by have := HYX.out; omega
  have hne2 : ¬ yb = xb + 1 := by have := HYX.out; omega
  go_wp2_with (go_at_call 29; refine (HCC.out _).mono ?_; rintro e w' ⟨rfl, hw⟩; have hw2 := hw.symm; subst hw2)
  refine bodyPost_ret (res_chg rfl _ _ (xb + 1) _ _ _ _ _ _ (0, 0) rfl (chg_six (show (w6.setCell ⟨yb, 3, none⟩ _).heap[xb + 1]? = _ from (heap_far hne1 _).trans HG1.out) _ _ _ _ _ _)) rfl ⟨HP.out _, ?_⟩
  exact HK5.out.fresh (Kept.six (HK7.out.setCell (p := ⟨yb, 3, none⟩) (.inl rfl) _) (.inr rfl) _ _ _ _ _ _) (fun b hb e => by have := HXB.out; have := HYX.out; omega)
end Go.Proofs.YtilkogohiealhaaDoor
