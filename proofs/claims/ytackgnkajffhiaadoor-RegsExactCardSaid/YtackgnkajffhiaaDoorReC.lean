/-
  REGISTERS: what a call tells of them is its own; what comes behind what is there.
-/
import Derived.Test.YtackgnkajffhiaaDoorRsZ
import Derived.Test.YtackgnkajffhiaaDoorReB
set_option linter.unusedVariables false
namespace Go.Proofs.YtackgnkajffhiaaDoor
open Go Go.RowKit

/-- What a call tells of registers, its own. -/
structure Ow (w : World) (B : Nat) (v : Value) (M : List RegS) : Prop where
  own : w.ownsRow B 41 3 v M.length (flatR M)
  sz : ∀ r ∈ M, r.s.size ≤ 140737488351232
theorem Ow.sl {w : World} {B : Nat} {v : Value} {M : List RegS} (h : Ow w B v M) : Sl w v M := by
  obtain ⟨hl, A, c, e, hR, hb, hC⟩ := own_regs h.own h.sz
  exact ⟨A, M.length, c, e, hR, fun hA => ⟨by have := hC.1; have := hC.2 hA; omega, hC.2 hA⟩⟩
theorem Rm.ow {w : World} {g cap B : Nat} {M : List RegS} (h : Rm w g cap M) (hB : B ≤ g) (hc : cap ≤ maxLen) (hs : ∀ r ∈ M, r.s.size ≤ 140737488351232) : Ow w B (.slice (some ⟨g, 0, none⟩) M.length cap) M := by
  obtain ⟨cur, h1, h2, h3⟩ := h.h
  exact ⟨⟨flatR_len M, .inr ⟨g, cap, cur, rfl, hB, h1, h.le, hc, h2, h3⟩⟩, hs⟩
theorem Ow.kept {S : Nat → Prop} {w w' : World} {B : Nat} {v : Value} {M : List RegS} (h : Ow w B v M) (hk : Kept S w w') (hs : ∀ k, v.ownBlock = some k → ¬ S k) : Ow w' B v M := by
  refine ⟨⟨h.own.1, ?_⟩, h.sz⟩
  rcases h.own.2 with hn | ⟨g, cap, cur, e, hb, hg, rest⟩
  · exact .inl hn
  · exact .inr ⟨g, cap, cur, e, hb, (hk.block g (heap_lt hg) (hs g (by rw [e]; rfl))).trans hg, rest⟩
theorem Ow.keep {w w' : World} {B : Nat} {v : Value} {M : List RegS} (h : Ow w B v M) (hk : Kept (fun _ => False) w w') : Ow w' B v M := h.kept hk (fun _ _ => id)
theorem Ow.mono {w : World} {B B' : Nat} {v : Value} {M : List RegS} (h : Ow w B v M) (hb : B' ≤ B) : Ow w B' v M := by
  refine ⟨⟨h.own.1, ?_⟩, h.sz⟩
  rcases h.own.2 with hn | ⟨g, cap, cur, e, hB, rest⟩
  · exact .inl hn
  · exact .inr ⟨g, cap, cur, e, Nat.le_trans hb hB, rest⟩
theorem Ow.lt {w : World} {B : Nat} {v : Value} {M : List RegS} (h : Ow w B v M) : ∀ k, v.ownBlock = some k → B ≤ k ∧ k < w.heap.size := fun k hk => h.own.lt k hk
theorem ow_nil (w : World) (B : Nat) : Ow w B (.slice none 0 0) [] := ⟨World.ownsRow_nil _ _ _ _, by simp⟩
theorem set_ow (v : Value) (M : List RegS) (r : RegS) (w : World) (h : Sl w v M) (hn : M.length ≤ 100000) (hr : r.s.size ≤ 140737488351232) :
    Calls Tryd.prog 27 #[v, regV r] w fun e w' => (∃ v', e = .returned v' ∧ Ow w' w.heap.size v' (Rs.put M r)) ∧ Kept (fun _ => False) w w' := by
  obtain ⟨A, n, c, rfl, h1, h2⟩ := h
  have hl := h1.len
  refine (set_any A n c M r w h1 (by omega)).mono ?_
  rintro e w' ⟨⟨g, rfl, hrm, hge⟩, hk⟩
  exact ⟨⟨_, rfl, hrm.ow hge (by unfold maxLen; omega) (put_sz h1.sz hr)⟩, hk⟩
theorem turn_ow (v : Value) (M : List RegS) (w : World) (h : Sl w v M) (hn : M.length ≤ 100000) :
    Calls Tryd.prog 28 #[v] w fun e w' => (∃ v', e = .returned v' ∧ Ow w' w.heap.size v' (Rs.turn M)) ∧ Kept (fun _ => False) w w' := by
  obtain ⟨A, n, c, rfl, h1, h2⟩ := h
  have hl := h1.len
  refine (turn_any A n c M w h1 (by omega)).mono ?_
  rintro e w' ⟨⟨g, rfl, hrm, hge⟩, hk⟩
  exact ⟨⟨_, rfl, hrm.ow hge (by unfold maxLen; omega) (turn_sz h1.sz)⟩, hk⟩
set_option maxRecDepth 100000 in
set_option maxHeartbeats 4000000 in
theorem clone_ow (v : Value) (M : List RegS) (w : World) (h : Sl w v M) (hn : M.length ≤ 100000) :
    Calls Tryd.prog 40 #[v] w fun e w' => (∃ v', e = .returned v' ∧ Ow w' w.heap.size v' M) ∧ Kept (fun _ => False) w w' := by
  obtain ⟨A, n, c, rfl, hA, hC⟩ := h
  match A, hA, hC with
  | none, hA, hC =>
    obtain ⟨rfl, rfl⟩ := hC rfl
    obtain rfl : M = [] := List.eq_nil_of_length_eq_zero hA.len
    have q0 : ∀ u, (binOp .eql 22 (.slice none 0 0) (.slice none 0 0)).run Tryd.prog u = .ok (.bool true) u := fun u => eql_nilN u
    clear hA hC
    go_enter Tryd.func40, Tryd.ntmps40
    go_wp2
    go_ret
    exact ⟨⟨_, rfl, ow_nil _ _⟩, Kept.refl _ _⟩
  | some ad, hA, _ =>
    obtain ⟨i0, hi, hz0, hz1, hz2⟩ := info_parts info_reg
    have hown : (w.alloc (.cells #[] 41)).ownsRow w.heap.size 41 3 (.slice (some ⟨w.heap.size, 0, none⟩) 0 0) 0 ([] : List Value) :=
      World.ownsRow_lit (base := w.heap.size) (e := 41) (size := 3) w #[] 0 (Nat.le_refl _) (by decide) rfl
    have hk : Kept (fun _ => False) w (w.alloc (.cells #[] 41)) := (Kept.refl _ w).alloc _
    have hz : w.heap.size ≤ (w.alloc (.cells #[] 41)).heap.size := hk.size
    have hA' := hA.kept hk (fun _ _ => id)
    have hl := hA.len
    have HSZ := Lib.hid hA.sz
    have HK := Lib.hid hk
    have HL := Lib.hid hl
    have q0 : ∀ u, (binOp .eql 22 (.slice (some ad) n c) (.slice none 0 0)).run Tryd.prog u = .ok (.bool false) u := fun u => eql_nilR u _ _ _
    clear hA hk
    go_enter Tryd.func40, Tryd.ntmps40
    go_wp2_with (at_builtin; refine wpList_append_own _ rfl _ _ 22 rfl w.heap.size 41 i0 (.agg #[.int .i64 0, .string ⟨#[]⟩, .bool false]) 3 32 Tryd.underlying22 hi hz0 hz1 hz2 rfl (by decide) _ _ _ rfl hown ad n c (flatR M) rfl (by rw [flatR_len, hl]) (rg_news hA') flatR_one' (by unfold maxLen; omega) (by omega) hz ?_)
    intro v' w1 hown' hgrow hnil
    have hK1 := Lib.hid (Kept.grew HK.out hgrow (fun q hq => (hown.lt q hq).1))
    have HO : Hid (Ow w1 w.heap.size v' M) := by
      show Ow _ _ _ _
      refine ⟨?_, HSZ.out⟩
      rw [HL.out]
      exact hown'
    clear hown' hgrow hnil hown hA' hz
    go_wp2
    go_ret
    exact ⟨⟨v', rfl, HO.out⟩, hK1.out⟩
/-- What behind tells. -/
def bhV (o : Option RegS) : Value := match o with
  | some r => .tuple #[regV r, .int .i64 0]
  | none => .tuple #[regV zReg, .int .i64 4]
theorem empty_toList {q : ByteArray} (h : q = ⟨#[]⟩) : q.toList = [] := by rw [h, ByteArray.toList_eq]
theorem full_toList {q : ByteArray} (h : ¬ q = ⟨#[]⟩) : (q.toList == []) = false ∧ (q.toList == (⟨#[]⟩ : ByteArray).toList) = false ∧ q.toList.isEmpty = false := by
  have hn : q.toList ≠ [] := fun e => h (by
    rw [ByteArray.toList_eq] at e
    obtain ⟨⟨l⟩⟩ := q
    simp only at e
    subst e
    rfl)
  have h0 : (⟨#[]⟩ : ByteArray).toList = [] := empty_toList rfl
  refine ⟨beq_eq_false_iff_ne.2 hn, by rw [h0]; exact beq_eq_false_iff_ne.2 hn, ?_⟩
  cases hq : q.toList with
  | nil => exact absurd hq hn
  | cons a l => rfl
theorem Kept.cellsAt {S : Nat → Prop} {w w' : World} {g : Nat} {o : Obj} (hk : Kept S w w') (h : w.heap[g]? = some o) (hs : ¬ S g) : w'.heap[g]? = some o := (hk.block g (heap_lt h) hs).trans h
set_option maxRecDepth 100000 in
set_option maxHeartbeats 8000000 in
theorem behind_any (v : Value) (M : List RegS) (z : Int) (s : ByteArray) (b : Bool) (w : World) (h : Sl w v M) (hn : M.length ≤ 100000) (hM : Rs.okB M = true) (hz : Rs.Gt z) (hs : mayB s = true) (hT : Tabs w) :
    Calls Tryd.prog 41 #[v, regV ⟨z, s, b⟩] w fun e w' => e = .returned (bhV (Rs.bh M z s b)) ∧ Kept (fun _ => False) w w' := by
  have hss := mayB_size hs
  have hka : Kept (fun _ => False) w (w.alloc (regO ⟨z, s, b⟩)) := (Kept.refl _ w).alloc _
  have hkb : Kept (fun _ => False) w ((w.alloc (regO ⟨z, s, b⟩)).alloc (regO zReg)) := hka.alloc _
  have hc0 : (w.alloc (regO ⟨z, s, b⟩)).heap[w.heap.size]? = some (regO ⟨z, s, b⟩) := heap_alloc_new w _
  have hc1 : ((w.alloc (regO ⟨z, s, b⟩)).alloc (regO zReg)).heap[w.heap.size]? = some (regO ⟨z, s, b⟩) := Kept.cellsAt (S := fun _ => False) ((Kept.refl _ _).alloc _) hc0 id
  have hr1 : ((w.alloc (regO ⟨z, s, b⟩)).alloc (regO zReg)).heap[(w.alloc (regO ⟨z, s, b⟩)).heap.size]? = some (regO zReg) := heap_alloc_new _ _
  have hlt := heap_lt hc0
  obtain ⟨cb, hcb⟩ : ∃ cb, w.heap.size = cb := ⟨_, rfl⟩
  obtain ⟨rb, hrb⟩ : ∃ rb, (w.alloc (regO ⟨z, s, b⟩)).heap.size = rb := ⟨_, rfl⟩
  rw [hcb] at hc1 hlt
  rw [hrb] at hr1 hlt
  have HKB := Lib.hid hkb
  have HC1 := Lib.hid hc1
  have HR1 := Lib.hid hr1
  have HCB := Lib.hid hcb
  have HRB : Hid (w.heap.size ≤ rb) := by show _ ≤ _; rw [← hrb]; exact hka.size
  have HT := Lib.hid hT
  have HMS : Hid (∀ q ∈ M, q.s.size ≤ 4000) := fun q hq => by
    obtain ⟨i, hi, rfl⟩ := List.getElem_of_mem hq
    exact mayB_size (Rs.ok_of hM i _ (List.getElem?_eq_getElem hi)).1.2
  have ez : IntKind.i64.wrap (z + 32) = z + 32 := IntWalk.i64_in _ ⟨by have := hz.1; omega, by have := hz.2; omega⟩
  have hSl := Lib.hid h
  have HN := Lib.hid hn
  have hgm : ∀ q, Rs.get M (z + 32) = some q → q.n = z + 32 ∧ q ∈ M := fun q hq => ⟨(Rs.get_mem hq).2, (Rs.get_mem hq).1⟩
  obtain ⟨F, hF⟩ : ∃ F, bhV (Rs.bh M z s b) = F := ⟨_, rfl⟩
  rw [hF]
  have HF := Lib.hid hF
  clear h hn hM hz hs hT hka hkb hc0 hc1 hr1 hF
  obtain ⟨⟨c0, c1, c2⟩, f0, f1, f2⟩ := rzs (r := ⟨z, s, b⟩) HC1.out
  go_enter Tryd.func41, Tryd.ntmps41
  go_upto_region 1 with fail
  simp only [regO] at HKB HC1 HR1
  clear hrb hcb
  generalize (w.alloc (.cells #[.int .i64 z, .string s, .bool b] 41)).alloc (.cells #[.int .i64 0, .string ⟨#[]⟩, .bool false] 41) = w1 at *
  have hc2 : (w1.setCell ⟨cb, 0, none⟩ (.int .i64 (z + 32))).heap[cb]? = some (regO ⟨z + 32, s, b⟩) := heap_set HC1.out _
  have hr2 : (w1.setCell ⟨cb, 0, none⟩ (.int .i64 (z + 32))).heap[rb]? = some (regO zReg) := (heap_far (show rb ≠ cb by omega) _).trans HR1.out
  have hk2 : Kept (fun q => q = cb) w1 (w1.setCell ⟨cb, 0, none⟩ (.int .i64 (z + 32))) := (Kept.refl (fun q => q = cb) w1).setCell (p := ⟨cb, 0, none⟩) rfl _
  have HC2 := Lib.hid hc2
  have HR2 := Lib.hid hr2
  have HK2 : Hid (Kept (fun _ => False) w (w1.setCell ⟨cb, 0, none⟩ (.int .i64 (z + 32)))) := HKB.out.fresh hk2 (fun q hq e => by have e : q = cb := e; have := HCB.out; omega)
  clear hc2 hr2 hk2
  go_upto_region 2 with fail
  clear c0 c1 c2 f0 f1 f2 ez HC1 HR1
  simp only [regO] at HC2 HR2 HK2
  generalize w1.setCell ⟨cb, 0, none⟩ (.int .i64 (z + 32)) = w2 at *
  obtain ⟨⟨c0, c1, c2⟩, f0, f1, f2⟩ := rzs (r := ⟨z + 32, s, b⟩) HC2.out
  have cF : Calls Tryd.prog 31 #[v, .int .i64 (z + 32)] w2 fun e w' => e = .returned (fndV (Rs.get M (z + 32))) ∧ Kept (fun _ => False) w2 w' := by
    obtain ⟨A, n, c, rfl, h1, h2⟩ := hSl.out.kept HK2.out
    have hl := h1.len
    exact find_any A n c M (z + 32) w2 h1 (by have := HN.out; omega)
  cases hg : Rs.get M (z + 32) with
  | none =>
    have HE : Hid (F = bhV (some ⟨z + 32, s, b⟩)) := by
      show _ = _
      rw [← HF.out]
      unfold Rs.bh
      rw [hg]
    rw [hg] at cF
    unfold fndV at cF
    simp only at cF
    clear hg hgm
    go_upto_region 3 with (go_at_call 31; refine cF.mono ?_; clear cF; rintro e w3 ⟨rfl, hk3⟩; have HK3 := Lib.hid hk3; clear hk3)
    have hk4 : Kept (fun _ => False) w3 (w3.alloc (regO zReg)) := (Kept.refl _ _).alloc _
    have HK4 := Lib.hid (HK3.out.trans hk4)
    clear hk4 c0 c1 c2 f0 f1 f2
    simp only [regO] at HK4
    generalize w3.alloc (.cells #[.int .i64 0, .string ⟨#[]⟩, .bool false] 41) = w4 at *
    generalize w3.heap.size = g at *
    have HZ4 := Lib.hid (HK4.out.cellsAt HR2.out id)
    obtain ⟨⟨d0, d1, d2⟩, e0, e1, e2⟩ := rzs (r := zReg) HZ4.out
    obtain ⟨⟨c0, c1, c2⟩, f0, f1, f2⟩ := rzs (r := ⟨z + 32, s, b⟩) (HK4.out.cellsAt HC2.out id)
    clear f0 f1 f2
    go_wp2_with fail
    refine bodyPost_ret (res_reg2 rfl _ _ rb ⟨z + 32, s, b⟩ (0, 0) rfl (three HZ4.out _ _ _)) rfl ⟨?_, (HK2.out.trans HK4.out).fresh (Kept.three (Kept.refl (fun q => q = rb) w4) rfl _ _ _) (fun q hq e => by have e : q = rb := e; have := HRB.out; omega)⟩
    rw [HE.out]
    rfl
  | some q =>
    obtain ⟨hqn, hqm⟩ := hgm q hg
    have hqs := HMS.out q hqm
    rw [hg] at cF
    unfold fndV at cF
    simp only at cF
    have HG := Lib.hid hg
    obtain ⟨qn, qs, qb⟩ := q
    simp only at hqn hqs cF
    subst hqn
    clear hg hgm hqm
    go_upto_region 3 with (go_at_call 31; refine cF.mono ?_; clear cF; rintro e w3 ⟨rfl, hk3⟩; have HK3 := Lib.hid hk3; clear hk3)
    have hk4 : Kept (fun _ => False) w3 (w3.alloc (regO ⟨z + 32, qs, qb⟩)) := (Kept.refl _ _).alloc _
    have HZ4 : Hid ((w3.alloc (regO ⟨z + 32, qs, qb⟩)).heap[w3.heap.size]? = some (regO ⟨z + 32, qs, qb⟩)) := heap_alloc_new w3 _
    have HK4 := Lib.hid (HK2.out.trans (HK3.out.trans hk4))
    have HC4 := Lib.hid ((HK3.out.trans hk4).cellsAt HC2.out id)
    have HR4 := Lib.hid ((HK3.out.trans hk4).cellsAt HR2.out id)
    have HGB : Hid (w.heap.size ≤ w3.heap.size) := (HK2.out.trans HK3.out).size
    have HGC : Hid (cb ≠ w3.heap.size) := by show _ ≠ _; have := heap_lt (HK3.out.cellsAt HC2.out id); omega
    have HGR : Hid (rb ≠ w3.heap.size) := by show _ ≠ _; have := heap_lt (HK3.out.cellsAt HR2.out id); omega
    clear hk4 c0 c1 c2 f0 f1 f2
    simp only [regO] at HK4 HZ4 HC4 HR4
    generalize w3.alloc (.cells #[.int .i64 (z + 32), .string qs, .bool qb] 41) = w4 at *
    generalize w3.heap.size = g at *
    have ad1 : ∀ u, (Op.stringOp .add qs ⟨#[10]⟩).run Tryd.prog u = .ok (.string (qs ++ ⟨#[10]⟩)) u := fun u => run_string_add_sum u qs ⟨#[10]⟩ (by rw [show (⟨#[10]⟩ : ByteArray).size = 1 from rfl]; omega)
    have ad2 : ∀ u, (Op.stringOp .add (qs ++ ⟨#[10]⟩) s).run Tryd.prog u = .ok (.string (qs ++ ⟨#[10]⟩ ++ s)) u := fun u => run_string_add_sum u _ s (by rw [ByteArray.size_append, show (⟨#[10]⟩ : ByteArray).size = 1 from rfl]; omega)
    have ad3 : ∀ u, (Op.stringOp .add qs s).run Tryd.prog u = .ok (.string (qs ++ s)) u := fun u => run_string_add_sum u qs s (by omega)
    have hJ1 : (qs ++ ⟨#[10]⟩ ++ s).size ≤ 140737488351232 := by rw [ByteArray.size_append, ByteArray.size_append, show (⟨#[10]⟩ : ByteArray).size = 1 from rfl]; omega
    have hJ2 : (qs ++ s).size ≤ 140737488351232 := by rw [ByteArray.size_append]; omega
    have HJ1 := Lib.hid hJ1
    have HJ2 := Lib.hid hJ2
    clear hJ1 hJ2
    by_cases hem : qs = ⟨#[]⟩
    · have HEM := Lib.hid hem
      have hne := empty_toList hem
      clear hem
      cases qb
      · cases b
        · have hjn : Rs.jn ⟨z + 32, qs, false⟩ s false = (qs ++ s) := by
            unfold Rs.jn; rw [if_neg (fun hc => hc.2 HEM.out)]
          have hbh : Rs.bh M z s false = if mayB (qs ++ s) = true then some ⟨z + 32, (qs ++ s), false⟩ else none := by
            unfold Rs.bh
            rw [HG.out]
            simp only [hjn]
            rfl
          rw [hbh] at HF
          clear hbh hjn
          have hz5 : (w4.setCell ⟨g, 2, none⟩ (.bool false)).heap[g]? = some (regO ⟨z + 32, qs, false⟩) := heap_set HZ4.out _
          have hk5 : Kept (fun p => p = g) w4 (w4.setCell ⟨g, 2, none⟩ (.bool false)) := (Kept.refl (fun p => p = g) w4).setCell (p := ⟨g, 2, none⟩) rfl _
          have HZ5 := Lib.hid hz5
          have HK5 := Lib.hid hk5
          clear hz5 hk5
          obtain ⟨⟨p0, p1, p2⟩, f0, f1, f2⟩ := rzs (r := ⟨z + 32, qs, false⟩) HZ4.out
          obtain ⟨⟨c0, c1, c2⟩, h0, h1, h2⟩ := rzs (r := ⟨z + 32, s, false⟩) HC4.out
          clear h0 h1 h2
          go_upto_region 6 with fail
          clear p0 p1 p2 f0 f1 f2 c0 c1 c2
          simp only [regO] at HZ5
          generalize w4.setCell ⟨g, 2, none⟩ (.bool false) = w5 at *
          have hz7 : (w5.setCell ⟨g, 1, none⟩ (.string (qs ++ s))).heap[g]? = some (regO ⟨z + 32, (qs ++ s), false⟩) := heap_set HZ5.out _
          have hk7 : Kept (fun p => p = g) w4 (w5.setCell ⟨g, 1, none⟩ (.string (qs ++ s))) := HK5.out.setCell (p := ⟨g, 1, none⟩) rfl _
          have HZ7 := Lib.hid hz7
          have HK7 := Lib.hid hk7
          clear hz7 hk7
          obtain ⟨⟨p0, p1, p2⟩, f0, f1, f2⟩ := rzs (r := ⟨z + 32, qs, false⟩) HZ5.out
          obtain ⟨⟨c0, c1, c2⟩, h0, h1, h2⟩ := rzs (r := ⟨z + 32, s, false⟩) (HK5.out.cellsAt HC4.out (fun e => HGC.out e))
          clear h0 h1 h2
          go_upto_region 9 with fail
          clear p0 p1 p2 f0 f1 f2 c0 c1 c2 ad1 ad2 ad3
          simp only [regO] at HZ7
          generalize w5.setCell ⟨g, 1, none⟩ (.string (qs ++ s)) = w7 at *
          have HKW : Hid (Kept (fun _ => False) w w7) := HK4.out.fresh HK7.out (fun p hp e => by have e : p = g := e; have := HGB.out; omega)
          have HR7 := Lib.hid (HK7.out.cellsAt HR4.out (fun e => HGR.out e))
          have cC := check_any (qs ++ s) w7 HJ2.out (HT.out.kept HKW.out id id)
          obtain ⟨⟨p0, p1, p2⟩, f0, f1, f2⟩ := rzs (r := ⟨z + 32, (qs ++ s), false⟩) HZ7.out
          generalize (qs ++ s) = JJ at *
          cases hm : mayB JJ with
          | true =>
            rw [if_pos hm] at cC
            have HE : Hid (F = bhV (some ⟨z + 32, JJ, false⟩)) := by show _ = _; rw [← HF.out, if_pos hm]
            clear hm
            have HH : Hid (∀ w8, Kept (fun _ => False) w7 w8 → (w8.cell? ⟨g, 0, none⟩ = some (.int .i64 (z + 32)) ∧ w8.cell? ⟨g, 1, none⟩ = some (.string JJ) ∧ w8.cell? ⟨g, 2, none⟩ = some (.bool false)) ∧ (w8.cell? ⟨rb, 0, none⟩ = some (.int .i64 0) ∧ w8.cell? ⟨rb, 1, none⟩ = some (.string ⟨#[]⟩) ∧ w8.cell? ⟨rb, 2, none⟩ = some (.bool false)) ∧ w8.frozen? ⟨rb, 0, none⟩ = false ∧ w8.frozen? ⟨rb, 1, none⟩ = false ∧ w8.frozen? ⟨rb, 2, none⟩ = false) := fun w8 hk => ⟨(rzs (r := ⟨z + 32, JJ, false⟩) (hk.cellsAt HZ7.out id)).1, (rzs (r := zReg) (hk.cellsAt HR7.out id)).1, (rzs (r := zReg) (hk.cellsAt HR7.out id)).2⟩
            go_wp2_with (go_at_call 17; refine cC.mono ?_; clear cC p0 p1 p2 f0 f1 f2; rintro e w8 ⟨rfl, hk8⟩; have HK8 := Lib.hid hk8; obtain ⟨⟨p0, p1, p2⟩, ⟨d0, d1, d2⟩, e0, e1, e2⟩ := HH.out w8 hk8; clear hk8)
            refine bodyPost_ret (res_reg2 rfl _ _ rb ⟨z + 32, JJ, false⟩ (0, 0) rfl (three (HK8.out.cellsAt HR7.out id) _ _ _)) rfl ⟨?_, (HKW.out.trans HK8.out).fresh (Kept.three (Kept.refl (fun q => q = rb) w8) rfl _ _ _) (fun q hq e => by have e : q = rb := e; have := HRB.out; omega)⟩
            rw [HE.out]
            rfl
          | false =>
            rw [if_neg (by rw [hm]; decide)] at cC
            have HE : Hid (F = bhV none) := by show _ = _; rw [← HF.out, if_neg (by rw [hm]; decide)]
            clear hm
            have HH : Hid (∀ w8, Kept (fun _ => False) w7 w8 → (w8.cell? ⟨g, 0, none⟩ = some (.int .i64 (z + 32)) ∧ w8.cell? ⟨g, 1, none⟩ = some (.string JJ) ∧ w8.cell? ⟨g, 2, none⟩ = some (.bool false)) ∧ (w8.cell? ⟨rb, 0, none⟩ = some (.int .i64 0) ∧ w8.cell? ⟨rb, 1, none⟩ = some (.string ⟨#[]⟩) ∧ w8.cell? ⟨rb, 2, none⟩ = some (.bool false)) ∧ w8.frozen? ⟨rb, 0, none⟩ = false ∧ w8.frozen? ⟨rb, 1, none⟩ = false ∧ w8.frozen? ⟨rb, 2, none⟩ = false) := fun w8 hk => ⟨(rzs (r := ⟨z + 32, JJ, false⟩) (hk.cellsAt HZ7.out id)).1, (rzs (r := zReg) (hk.cellsAt HR7.out id)).1, (rzs (r := zReg) (hk.cellsAt HR7.out id)).2⟩
            go_wp2_with (go_at_call 17; refine cC.mono ?_; clear cC p0 p1 p2 f0 f1 f2; rintro e w8 ⟨rfl, hk8⟩; have HK8 := Lib.hid hk8; obtain ⟨⟨p0, p1, p2⟩, ⟨d0, d1, d2⟩, e0, e1, e2⟩ := HH.out w8 hk8; clear hk8)
            refine bodyPost_ret (res_reg2 rfl _ _ rb zReg (0, 0) rfl (three (HK8.out.cellsAt HR7.out id) _ _ _)) rfl ⟨?_, (HKW.out.trans HK8.out).fresh (Kept.three (Kept.refl (fun q => q = rb) w8) rfl _ _ _) (fun q hq e => by have e : q = rb := e; have := HRB.out; omega)⟩
            rw [HE.out]
            rfl
        · have hjn : Rs.jn ⟨z + 32, qs, false⟩ s true = (qs ++ s) := by
            unfold Rs.jn; rw [if_neg (fun hc => hc.2 HEM.out)]
          have hbh : Rs.bh M z s true = if mayB (qs ++ s) = true then some ⟨z + 32, (qs ++ s), true⟩ else none := by
            unfold Rs.bh
            rw [HG.out]
            simp only [hjn]
            rfl
          rw [hbh] at HF
          clear hbh hjn
          have hz5 : (w4.setCell ⟨g, 2, none⟩ (.bool true)).heap[g]? = some (regO ⟨z + 32, qs, true⟩) := heap_set HZ4.out _
          have hk5 : Kept (fun p => p = g) w4 (w4.setCell ⟨g, 2, none⟩ (.bool true)) := (Kept.refl (fun p => p = g) w4).setCell (p := ⟨g, 2, none⟩) rfl _
          have HZ5 := Lib.hid hz5
          have HK5 := Lib.hid hk5
          clear hz5 hk5
          obtain ⟨⟨p0, p1, p2⟩, f0, f1, f2⟩ := rzs (r := ⟨z + 32, qs, false⟩) HZ4.out
          obtain ⟨⟨c0, c1, c2⟩, h0, h1, h2⟩ := rzs (r := ⟨z + 32, s, true⟩) HC4.out
          clear h0 h1 h2
          go_upto_region 6 with fail
          clear p0 p1 p2 f0 f1 f2 c0 c1 c2
          simp only [regO] at HZ5
          generalize w4.setCell ⟨g, 2, none⟩ (.bool true) = w5 at *
          have hz7 : (w5.setCell ⟨g, 1, none⟩ (.string (qs ++ s))).heap[g]? = some (regO ⟨z + 32, (qs ++ s), true⟩) := heap_set HZ5.out _
          have hk7 : Kept (fun p => p = g) w4 (w5.setCell ⟨g, 1, none⟩ (.string (qs ++ s))) := HK5.out.setCell (p := ⟨g, 1, none⟩) rfl _
          have HZ7 := Lib.hid hz7
          have HK7 := Lib.hid hk7
          clear hz7 hk7
          obtain ⟨⟨p0, p1, p2⟩, f0, f1, f2⟩ := rzs (r := ⟨z + 32, qs, true⟩) HZ5.out
          obtain ⟨⟨c0, c1, c2⟩, h0, h1, h2⟩ := rzs (r := ⟨z + 32, s, true⟩) (HK5.out.cellsAt HC4.out (fun e => HGC.out e))
          clear h0 h1 h2
          go_upto_region 9 with fail
          clear p0 p1 p2 f0 f1 f2 c0 c1 c2 ad1 ad2 ad3
          simp only [regO] at HZ7
          generalize w5.setCell ⟨g, 1, none⟩ (.string (qs ++ s)) = w7 at *
          have HKW : Hid (Kept (fun _ => False) w w7) := HK4.out.fresh HK7.out (fun p hp e => by have e : p = g := e; have := HGB.out; omega)
          have HR7 := Lib.hid (HK7.out.cellsAt HR4.out (fun e => HGR.out e))
          have cC := check_any (qs ++ s) w7 HJ2.out (HT.out.kept HKW.out id id)
          obtain ⟨⟨p0, p1, p2⟩, f0, f1, f2⟩ := rzs (r := ⟨z + 32, (qs ++ s), true⟩) HZ7.out
          generalize (qs ++ s) = JJ at *
          cases hm : mayB JJ with
          | true =>
            rw [if_pos hm] at cC
            have HE : Hid (F = bhV (some ⟨z + 32, JJ, true⟩)) := by show _ = _; rw [← HF.out, if_pos hm]
            clear hm
            have HH : Hid (∀ w8, Kept (fun _ => False) w7 w8 → (w8.cell? ⟨g, 0, none⟩ = some (.int .i64 (z + 32)) ∧ w8.cell? ⟨g, 1, none⟩ = some (.string JJ) ∧ w8.cell? ⟨g, 2, none⟩ = some (.bool true)) ∧ (w8.cell? ⟨rb, 0, none⟩ = some (.int .i64 0) ∧ w8.cell? ⟨rb, 1, none⟩ = some (.string ⟨#[]⟩) ∧ w8.cell? ⟨rb, 2, none⟩ = some (.bool false)) ∧ w8.frozen? ⟨rb, 0, none⟩ = false ∧ w8.frozen? ⟨rb, 1, none⟩ = false ∧ w8.frozen? ⟨rb, 2, none⟩ = false) := fun w8 hk => ⟨(rzs (r := ⟨z + 32, JJ, true⟩) (hk.cellsAt HZ7.out id)).1, (rzs (r := zReg) (hk.cellsAt HR7.out id)).1, (rzs (r := zReg) (hk.cellsAt HR7.out id)).2⟩
            go_wp2_with (go_at_call 17; refine cC.mono ?_; clear cC p0 p1 p2 f0 f1 f2; rintro e w8 ⟨rfl, hk8⟩; have HK8 := Lib.hid hk8; obtain ⟨⟨p0, p1, p2⟩, ⟨d0, d1, d2⟩, e0, e1, e2⟩ := HH.out w8 hk8; clear hk8)
            refine bodyPost_ret (res_reg2 rfl _ _ rb ⟨z + 32, JJ, true⟩ (0, 0) rfl (three (HK8.out.cellsAt HR7.out id) _ _ _)) rfl ⟨?_, (HKW.out.trans HK8.out).fresh (Kept.three (Kept.refl (fun q => q = rb) w8) rfl _ _ _) (fun q hq e => by have e : q = rb := e; have := HRB.out; omega)⟩
            rw [HE.out]
            rfl
          | false =>
            rw [if_neg (by rw [hm]; decide)] at cC
            have HE : Hid (F = bhV none) := by show _ = _; rw [← HF.out, if_neg (by rw [hm]; decide)]
            clear hm
            have HH : Hid (∀ w8, Kept (fun _ => False) w7 w8 → (w8.cell? ⟨g, 0, none⟩ = some (.int .i64 (z + 32)) ∧ w8.cell? ⟨g, 1, none⟩ = some (.string JJ) ∧ w8.cell? ⟨g, 2, none⟩ = some (.bool true)) ∧ (w8.cell? ⟨rb, 0, none⟩ = some (.int .i64 0) ∧ w8.cell? ⟨rb, 1, none⟩ = some (.string ⟨#[]⟩) ∧ w8.cell? ⟨rb, 2, none⟩ = some (.bool false)) ∧ w8.frozen? ⟨rb, 0, none⟩ = false ∧ w8.frozen? ⟨rb, 1, none⟩ = false ∧ w8.frozen? ⟨rb, 2, none⟩ = false) := fun w8 hk => ⟨(rzs (r := ⟨z + 32, JJ, true⟩) (hk.cellsAt HZ7.out id)).1, (rzs (r := zReg) (hk.cellsAt HR7.out id)).1, (rzs (r := zReg) (hk.cellsAt HR7.out id)).2⟩
            go_wp2_with (go_at_call 17; refine cC.mono ?_; clear cC p0 p1 p2 f0 f1 f2; rintro e w8 ⟨rfl, hk8⟩; have HK8 := Lib.hid hk8; obtain ⟨⟨p0, p1, p2⟩, ⟨d0, d1, d2⟩, e0, e1, e2⟩ := HH.out w8 hk8; clear hk8)
            refine bodyPost_ret (res_reg2 rfl _ _ rb zReg (0, 0) rfl (three (HK8.out.cellsAt HR7.out id) _ _ _)) rfl ⟨?_, (HKW.out.trans HK8.out).fresh (Kept.three (Kept.refl (fun q => q = rb) w8) rfl _ _ _) (fun q hq e => by have e : q = rb := e; have := HRB.out; omega)⟩
            rw [HE.out]
            rfl
      · cases b
        · have hjn : Rs.jn ⟨z + 32, qs, true⟩ s false = (qs ++ s) := by
            unfold Rs.jn; rw [if_neg (fun hc => hc.2 HEM.out)]
          have hbh : Rs.bh M z s false = if mayB (qs ++ s) = true then some ⟨z + 32, (qs ++ s), true⟩ else none := by
            unfold Rs.bh
            rw [HG.out]
            simp only [hjn]
            rfl
          rw [hbh] at HF
          clear hbh hjn
          have hz5 : (w4.setCell ⟨g, 2, none⟩ (.bool true)).heap[g]? = some (regO ⟨z + 32, qs, true⟩) := heap_set HZ4.out _
          have hk5 : Kept (fun p => p = g) w4 (w4.setCell ⟨g, 2, none⟩ (.bool true)) := (Kept.refl (fun p => p = g) w4).setCell (p := ⟨g, 2, none⟩) rfl _
          have HZ5 := Lib.hid hz5
          have HK5 := Lib.hid hk5
          clear hz5 hk5
          obtain ⟨⟨p0, p1, p2⟩, f0, f1, f2⟩ := rzs (r := ⟨z + 32, qs, true⟩) HZ4.out
          obtain ⟨⟨c0, c1, c2⟩, h0, h1, h2⟩ := rzs (r := ⟨z + 32, s, false⟩) HC4.out
          clear h0 h1 h2
          go_upto_region 6 with fail
          clear p0 p1 p2 f0 f1 f2 c0 c1 c2
          simp only [regO] at HZ5
          generalize w4.setCell ⟨g, 2, none⟩ (.bool true) = w5 at *
          have hz7 : (w5.setCell ⟨g, 1, none⟩ (.string (qs ++ s))).heap[g]? = some (regO ⟨z + 32, (qs ++ s), true⟩) := heap_set HZ5.out _
          have hk7 : Kept (fun p => p = g) w4 (w5.setCell ⟨g, 1, none⟩ (.string (qs ++ s))) := HK5.out.setCell (p := ⟨g, 1, none⟩) rfl _
          have HZ7 := Lib.hid hz7
          have HK7 := Lib.hid hk7
          clear hz7 hk7
          obtain ⟨⟨p0, p1, p2⟩, f0, f1, f2⟩ := rzs (r := ⟨z + 32, qs, true⟩) HZ5.out
          obtain ⟨⟨c0, c1, c2⟩, h0, h1, h2⟩ := rzs (r := ⟨z + 32, s, false⟩) (HK5.out.cellsAt HC4.out (fun e => HGC.out e))
          clear h0 h1 h2
          go_upto_region 9 with fail
          clear p0 p1 p2 f0 f1 f2 c0 c1 c2 ad1 ad2 ad3
          simp only [regO] at HZ7
          generalize w5.setCell ⟨g, 1, none⟩ (.string (qs ++ s)) = w7 at *
          have HKW : Hid (Kept (fun _ => False) w w7) := HK4.out.fresh HK7.out (fun p hp e => by have e : p = g := e; have := HGB.out; omega)
          have HR7 := Lib.hid (HK7.out.cellsAt HR4.out (fun e => HGR.out e))
          have cC := check_any (qs ++ s) w7 HJ2.out (HT.out.kept HKW.out id id)
          obtain ⟨⟨p0, p1, p2⟩, f0, f1, f2⟩ := rzs (r := ⟨z + 32, (qs ++ s), true⟩) HZ7.out
          generalize (qs ++ s) = JJ at *
          cases hm : mayB JJ with
          | true =>
            rw [if_pos hm] at cC
            have HE : Hid (F = bhV (some ⟨z + 32, JJ, true⟩)) := by show _ = _; rw [← HF.out, if_pos hm]
            clear hm
            have HH : Hid (∀ w8, Kept (fun _ => False) w7 w8 → (w8.cell? ⟨g, 0, none⟩ = some (.int .i64 (z + 32)) ∧ w8.cell? ⟨g, 1, none⟩ = some (.string JJ) ∧ w8.cell? ⟨g, 2, none⟩ = some (.bool true)) ∧ (w8.cell? ⟨rb, 0, none⟩ = some (.int .i64 0) ∧ w8.cell? ⟨rb, 1, none⟩ = some (.string ⟨#[]⟩) ∧ w8.cell? ⟨rb, 2, none⟩ = some (.bool false)) ∧ w8.frozen? ⟨rb, 0, none⟩ = false ∧ w8.frozen? ⟨rb, 1, none⟩ = false ∧ w8.frozen? ⟨rb, 2, none⟩ = false) := fun w8 hk => ⟨(rzs (r := ⟨z + 32, JJ, true⟩) (hk.cellsAt HZ7.out id)).1, (rzs (r := zReg) (hk.cellsAt HR7.out id)).1, (rzs (r := zReg) (hk.cellsAt HR7.out id)).2⟩
            go_wp2_with (go_at_call 17; refine cC.mono ?_; clear cC p0 p1 p2 f0 f1 f2; rintro e w8 ⟨rfl, hk8⟩; have HK8 := Lib.hid hk8; obtain ⟨⟨p0, p1, p2⟩, ⟨d0, d1, d2⟩, e0, e1, e2⟩ := HH.out w8 hk8; clear hk8)
            refine bodyPost_ret (res_reg2 rfl _ _ rb ⟨z + 32, JJ, true⟩ (0, 0) rfl (three (HK8.out.cellsAt HR7.out id) _ _ _)) rfl ⟨?_, (HKW.out.trans HK8.out).fresh (Kept.three (Kept.refl (fun q => q = rb) w8) rfl _ _ _) (fun q hq e => by have e : q = rb := e; have := HRB.out; omega)⟩
            rw [HE.out]
            rfl
          | false =>
            rw [if_neg (by rw [hm]; decide)] at cC
            have HE : Hid (F = bhV none) := by show _ = _; rw [← HF.out, if_neg (by rw [hm]; decide)]
            clear hm
            have HH : Hid (∀ w8, Kept (fun _ => False) w7 w8 → (w8.cell? ⟨g, 0, none⟩ = some (.int .i64 (z + 32)) ∧ w8.cell? ⟨g, 1, none⟩ = some (.string JJ) ∧ w8.cell? ⟨g, 2, none⟩ = some (.bool true)) ∧ (w8.cell? ⟨rb, 0, none⟩ = some (.int .i64 0) ∧ w8.cell? ⟨rb, 1, none⟩ = some (.string ⟨#[]⟩) ∧ w8.cell? ⟨rb, 2, none⟩ = some (.bool false)) ∧ w8.frozen? ⟨rb, 0, none⟩ = false ∧ w8.frozen? ⟨rb, 1, none⟩ = false ∧ w8.frozen? ⟨rb, 2, none⟩ = false) := fun w8 hk => ⟨(rzs (r := ⟨z + 32, JJ, true⟩) (hk.cellsAt HZ7.out id)).1, (rzs (r := zReg) (hk.cellsAt HR7.out id)).1, (rzs (r := zReg) (hk.cellsAt HR7.out id)).2⟩
            go_wp2_with (go_at_call 17; refine cC.mono ?_; clear cC p0 p1 p2 f0 f1 f2; rintro e w8 ⟨rfl, hk8⟩; have HK8 := Lib.hid hk8; obtain ⟨⟨p0, p1, p2⟩, ⟨d0, d1, d2⟩, e0, e1, e2⟩ := HH.out w8 hk8; clear hk8)
            refine bodyPost_ret (res_reg2 rfl _ _ rb zReg (0, 0) rfl (three (HK8.out.cellsAt HR7.out id) _ _ _)) rfl ⟨?_, (HKW.out.trans HK8.out).fresh (Kept.three (Kept.refl (fun q => q = rb) w8) rfl _ _ _) (fun q hq e => by have e : q = rb := e; have := HRB.out; omega)⟩
            rw [HE.out]
            rfl
        · have hjn : Rs.jn ⟨z + 32, qs, true⟩ s true = (qs ++ s) := by
            unfold Rs.jn; rw [if_neg (fun hc => hc.2 HEM.out)]
          have hbh : Rs.bh M z s true = if mayB (qs ++ s) = true then some ⟨z + 32, (qs ++ s), true⟩ else none := by
            unfold Rs.bh
            rw [HG.out]
            simp only [hjn]
            rfl
          rw [hbh] at HF
          clear hbh hjn
          have hz5 : (w4.setCell ⟨g, 2, none⟩ (.bool true)).heap[g]? = some (regO ⟨z + 32, qs, true⟩) := heap_set HZ4.out _
          have hk5 : Kept (fun p => p = g) w4 (w4.setCell ⟨g, 2, none⟩ (.bool true)) := (Kept.refl (fun p => p = g) w4).setCell (p := ⟨g, 2, none⟩) rfl _
          have HZ5 := Lib.hid hz5
          have HK5 := Lib.hid hk5
          clear hz5 hk5
          obtain ⟨⟨p0, p1, p2⟩, f0, f1, f2⟩ := rzs (r := ⟨z + 32, qs, true⟩) HZ4.out
          obtain ⟨⟨c0, c1, c2⟩, h0, h1, h2⟩ := rzs (r := ⟨z + 32, s, true⟩) HC4.out
          clear h0 h1 h2
          go_upto_region 6 with fail
          clear p0 p1 p2 f0 f1 f2 c0 c1 c2
          simp only [regO] at HZ5
          generalize w4.setCell ⟨g, 2, none⟩ (.bool true) = w5 at *
          have hz7 : (w5.setCell ⟨g, 1, none⟩ (.string (qs ++ s))).heap[g]? = some (regO ⟨z + 32, (qs ++ s), true⟩) := heap_set HZ5.out _
          have hk7 : Kept (fun p => p = g) w4 (w5.setCell ⟨g, 1, none⟩ (.string (qs ++ s))) := HK5.out.setCell (p := ⟨g, 1, none⟩) rfl _
          have HZ7 := Lib.hid hz7
          have HK7 := Lib.hid hk7
          clear hz7 hk7
          obtain ⟨⟨p0, p1, p2⟩, f0, f1, f2⟩ := rzs (r := ⟨z + 32, qs, true⟩) HZ5.out
          obtain ⟨⟨c0, c1, c2⟩, h0, h1, h2⟩ := rzs (r := ⟨z + 32, s, true⟩) (HK5.out.cellsAt HC4.out (fun e => HGC.out e))
          clear h0 h1 h2
          go_upto_region 9 with fail
          clear p0 p1 p2 f0 f1 f2 c0 c1 c2 ad1 ad2 ad3
          simp only [regO] at HZ7
          generalize w5.setCell ⟨g, 1, none⟩ (.string (qs ++ s)) = w7 at *
          have HKW : Hid (Kept (fun _ => False) w w7) := HK4.out.fresh HK7.out (fun p hp e => by have e : p = g := e; have := HGB.out; omega)
          have HR7 := Lib.hid (HK7.out.cellsAt HR4.out (fun e => HGR.out e))
          have cC := check_any (qs ++ s) w7 HJ2.out (HT.out.kept HKW.out id id)
          obtain ⟨⟨p0, p1, p2⟩, f0, f1, f2⟩ := rzs (r := ⟨z + 32, (qs ++ s), true⟩) HZ7.out
          generalize (qs ++ s) = JJ at *
          cases hm : mayB JJ with
          | true =>
            rw [if_pos hm] at cC
            have HE : Hid (F = bhV (some ⟨z + 32, JJ, true⟩)) := by show _ = _; rw [← HF.out, if_pos hm]
            clear hm
            have HH : Hid (∀ w8, Kept (fun _ => False) w7 w8 → (w8.cell? ⟨g, 0, none⟩ = some (.int .i64 (z + 32)) ∧ w8.cell? ⟨g, 1, none⟩ = some (.string JJ) ∧ w8.cell? ⟨g, 2, none⟩ = some (.bool true)) ∧ (w8.cell? ⟨rb, 0, none⟩ = some (.int .i64 0) ∧ w8.cell? ⟨rb, 1, none⟩ = some (.string ⟨#[]⟩) ∧ w8.cell? ⟨rb, 2, none⟩ = some (.bool false)) ∧ w8.frozen? ⟨rb, 0, none⟩ = false ∧ w8.frozen? ⟨rb, 1, none⟩ = false ∧ w8.frozen? ⟨rb, 2, none⟩ = false) := fun w8 hk => ⟨(rzs (r := ⟨z + 32, JJ, true⟩) (hk.cellsAt HZ7.out id)).1, (rzs (r := zReg) (hk.cellsAt HR7.out id)).1, (rzs (r := zReg) (hk.cellsAt HR7.out id)).2⟩
            go_wp2_with (go_at_call 17; refine cC.mono ?_; clear cC p0 p1 p2 f0 f1 f2; rintro e w8 ⟨rfl, hk8⟩; have HK8 := Lib.hid hk8; obtain ⟨⟨p0, p1, p2⟩, ⟨d0, d1, d2⟩, e0, e1, e2⟩ := HH.out w8 hk8; clear hk8)
            refine bodyPost_ret (res_reg2 rfl _ _ rb ⟨z + 32, JJ, true⟩ (0, 0) rfl (three (HK8.out.cellsAt HR7.out id) _ _ _)) rfl ⟨?_, (HKW.out.trans HK8.out).fresh (Kept.three (Kept.refl (fun q => q = rb) w8) rfl _ _ _) (fun q hq e => by have e : q = rb := e; have := HRB.out; omega)⟩
            rw [HE.out]
            rfl
          | false =>
            rw [if_neg (by rw [hm]; decide)] at cC
            have HE : Hid (F = bhV none) := by show _ = _; rw [← HF.out, if_neg (by rw [hm]; decide)]
            clear hm
            have HH : Hid (∀ w8, Kept (fun _ => False) w7 w8 → (w8.cell? ⟨g, 0, none⟩ = some (.int .i64 (z + 32)) ∧ w8.cell? ⟨g, 1, none⟩ = some (.string JJ) ∧ w8.cell? ⟨g, 2, none⟩ = some (.bool true)) ∧ (w8.cell? ⟨rb, 0, none⟩ = some (.int .i64 0) ∧ w8.cell? ⟨rb, 1, none⟩ = some (.string ⟨#[]⟩) ∧ w8.cell? ⟨rb, 2, none⟩ = some (.bool false)) ∧ w8.frozen? ⟨rb, 0, none⟩ = false ∧ w8.frozen? ⟨rb, 1, none⟩ = false ∧ w8.frozen? ⟨rb, 2, none⟩ = false) := fun w8 hk => ⟨(rzs (r := ⟨z + 32, JJ, true⟩) (hk.cellsAt HZ7.out id)).1, (rzs (r := zReg) (hk.cellsAt HR7.out id)).1, (rzs (r := zReg) (hk.cellsAt HR7.out id)).2⟩
            go_wp2_with (go_at_call 17; refine cC.mono ?_; clear cC p0 p1 p2 f0 f1 f2; rintro e w8 ⟨rfl, hk8⟩; have HK8 := Lib.hid hk8; obtain ⟨⟨p0, p1, p2⟩, ⟨d0, d1, d2⟩, e0, e1, e2⟩ := HH.out w8 hk8; clear hk8)
            refine bodyPost_ret (res_reg2 rfl _ _ rb zReg (0, 0) rfl (three (HK8.out.cellsAt HR7.out id) _ _ _)) rfl ⟨?_, (HKW.out.trans HK8.out).fresh (Kept.three (Kept.refl (fun q => q = rb) w8) rfl _ _ _) (fun q hq e => by have e : q = rb := e; have := HRB.out; omega)⟩
            rw [HE.out]
            rfl
    · have HEM := Lib.hid hem
      obtain ⟨hne, hne2, hne3⟩ := full_toList hem
      clear hem
      cases qb
      · cases b
        · have hjn : Rs.jn ⟨z + 32, qs, false⟩ s false = (qs ++ s) := by
            unfold Rs.jn; rw [if_neg (fun hc => Bool.noConfusion hc.1)]
          have hbh : Rs.bh M z s false = if mayB (qs ++ s) = true then some ⟨z + 32, (qs ++ s), false⟩ else none := by
            unfold Rs.bh
            rw [HG.out]
            simp only [hjn]
            rfl
          rw [hbh] at HF
          clear hbh hjn
          have hz5 : (w4.setCell ⟨g, 2, none⟩ (.bool false)).heap[g]? = some (regO ⟨z + 32, qs, false⟩) := heap_set HZ4.out _
          have hk5 : Kept (fun p => p = g) w4 (w4.setCell ⟨g, 2, none⟩ (.bool false)) := (Kept.refl (fun p => p = g) w4).setCell (p := ⟨g, 2, none⟩) rfl _
          have HZ5 := Lib.hid hz5
          have HK5 := Lib.hid hk5
          clear hz5 hk5
          obtain ⟨⟨p0, p1, p2⟩, f0, f1, f2⟩ := rzs (r := ⟨z + 32, qs, false⟩) HZ4.out
          obtain ⟨⟨c0, c1, c2⟩, h0, h1, h2⟩ := rzs (r := ⟨z + 32, s, false⟩) HC4.out
          clear h0 h1 h2
          go_upto_region 6 with fail
          clear p0 p1 p2 f0 f1 f2 c0 c1 c2
          simp only [regO] at HZ5
          generalize w4.setCell ⟨g, 2, none⟩ (.bool false) = w5 at *
          have hz7 : (w5.setCell ⟨g, 1, none⟩ (.string (qs ++ s))).heap[g]? = some (regO ⟨z + 32, (qs ++ s), false⟩) := heap_set HZ5.out _
          have hk7 : Kept (fun p => p = g) w4 (w5.setCell ⟨g, 1, none⟩ (.string (qs ++ s))) := HK5.out.setCell (p := ⟨g, 1, none⟩) rfl _
          have HZ7 := Lib.hid hz7
          have HK7 := Lib.hid hk7
          clear hz7 hk7
          obtain ⟨⟨p0, p1, p2⟩, f0, f1, f2⟩ := rzs (r := ⟨z + 32, qs, false⟩) HZ5.out
          obtain ⟨⟨c0, c1, c2⟩, h0, h1, h2⟩ := rzs (r := ⟨z + 32, s, false⟩) (HK5.out.cellsAt HC4.out (fun e => HGC.out e))
          clear h0 h1 h2
          go_upto_region 9 with fail
          clear p0 p1 p2 f0 f1 f2 c0 c1 c2 ad1 ad2 ad3
          simp only [regO] at HZ7
          generalize w5.setCell ⟨g, 1, none⟩ (.string (qs ++ s)) = w7 at *
          have HKW : Hid (Kept (fun _ => False) w w7) := HK4.out.fresh HK7.out (fun p hp e => by have e : p = g := e; have := HGB.out; omega)
          have HR7 := Lib.hid (HK7.out.cellsAt HR4.out (fun e => HGR.out e))
          have cC := check_any (qs ++ s) w7 HJ2.out (HT.out.kept HKW.out id id)
          obtain ⟨⟨p0, p1, p2⟩, f0, f1, f2⟩ := rzs (r := ⟨z + 32, (qs ++ s), false⟩) HZ7.out
          generalize (qs ++ s) = JJ at *
          cases hm : mayB JJ with
          | true =>
            rw [if_pos hm] at cC
            have HE : Hid (F = bhV (some ⟨z + 32, JJ, false⟩)) := by show _ = _; rw [← HF.out, if_pos hm]
            clear hm
            have HH : Hid (∀ w8, Kept (fun _ => False) w7 w8 → (w8.cell? ⟨g, 0, none⟩ = some (.int .i64 (z + 32)) ∧ w8.cell? ⟨g, 1, none⟩ = some (.string JJ) ∧ w8.cell? ⟨g, 2, none⟩ = some (.bool false)) ∧ (w8.cell? ⟨rb, 0, none⟩ = some (.int .i64 0) ∧ w8.cell? ⟨rb, 1, none⟩ = some (.string ⟨#[]⟩) ∧ w8.cell? ⟨rb, 2, none⟩ = some (.bool false)) ∧ w8.frozen? ⟨rb, 0, none⟩ = false ∧ w8.frozen? ⟨rb, 1, none⟩ = false ∧ w8.frozen? ⟨rb, 2, none⟩ = false) := fun w8 hk => ⟨(rzs (r := ⟨z + 32, JJ, false⟩) (hk.cellsAt HZ7.out id)).1, (rzs (r := zReg) (hk.cellsAt HR7.out id)).1, (rzs (r := zReg) (hk.cellsAt HR7.out id)).2⟩
            go_wp2_with (go_at_call 17; refine cC.mono ?_; clear cC p0 p1 p2 f0 f1 f2; rintro e w8 ⟨rfl, hk8⟩; have HK8 := Lib.hid hk8; obtain ⟨⟨p0, p1, p2⟩, ⟨d0, d1, d2⟩, e0, e1, e2⟩ := HH.out w8 hk8; clear hk8)
            refine bodyPost_ret (res_reg2 rfl _ _ rb ⟨z + 32, JJ, false⟩ (0, 0) rfl (three (HK8.out.cellsAt HR7.out id) _ _ _)) rfl ⟨?_, (HKW.out.trans HK8.out).fresh (Kept.three (Kept.refl (fun q => q = rb) w8) rfl _ _ _) (fun q hq e => by have e : q = rb := e; have := HRB.out; omega)⟩
            rw [HE.out]
            rfl
          | false =>
            rw [if_neg (by rw [hm]; decide)] at cC
            have HE : Hid (F = bhV none) := by show _ = _; rw [← HF.out, if_neg (by rw [hm]; decide)]
            clear hm
            have HH : Hid (∀ w8, Kept (fun _ => False) w7 w8 → (w8.cell? ⟨g, 0, none⟩ = some (.int .i64 (z + 32)) ∧ w8.cell? ⟨g, 1, none⟩ = some (.string JJ) ∧ w8.cell? ⟨g, 2, none⟩ = some (.bool false)) ∧ (w8.cell? ⟨rb, 0, none⟩ = some (.int .i64 0) ∧ w8.cell? ⟨rb, 1, none⟩ = some (.string ⟨#[]⟩) ∧ w8.cell? ⟨rb, 2, none⟩ = some (.bool false)) ∧ w8.frozen? ⟨rb, 0, none⟩ = false ∧ w8.frozen? ⟨rb, 1, none⟩ = false ∧ w8.frozen? ⟨rb, 2, none⟩ = false) := fun w8 hk => ⟨(rzs (r := ⟨z + 32, JJ, false⟩) (hk.cellsAt HZ7.out id)).1, (rzs (r := zReg) (hk.cellsAt HR7.out id)).1, (rzs (r := zReg) (hk.cellsAt HR7.out id)).2⟩
            go_wp2_with (go_at_call 17; refine cC.mono ?_; clear cC p0 p1 p2 f0 f1 f2; rintro e w8 ⟨rfl, hk8⟩; have HK8 := Lib.hid hk8; obtain ⟨⟨p0, p1, p2⟩, ⟨d0, d1, d2⟩, e0, e1, e2⟩ := HH.out w8 hk8; clear hk8)
            refine bodyPost_ret (res_reg2 rfl _ _ rb zReg (0, 0) rfl (three (HK8.out.cellsAt HR7.out id) _ _ _)) rfl ⟨?_, (HKW.out.trans HK8.out).fresh (Kept.three (Kept.refl (fun q => q = rb) w8) rfl _ _ _) (fun q hq e => by have e : q = rb := e; have := HRB.out; omega)⟩
            rw [HE.out]
            rfl
        · have hjn : Rs.jn ⟨z + 32, qs, false⟩ s true = (qs ++ ⟨#[10]⟩ ++ s) := by
            unfold Rs.jn; rw [if_pos ⟨rfl, HEM.out⟩]
          have hbh : Rs.bh M z s true = if mayB (qs ++ ⟨#[10]⟩ ++ s) = true then some ⟨z + 32, (qs ++ ⟨#[10]⟩ ++ s), true⟩ else none := by
            unfold Rs.bh
            rw [HG.out]
            simp only [hjn]
            rfl
          rw [hbh] at HF
          clear hbh hjn
          have hz5 : (w4.setCell ⟨g, 2, none⟩ (.bool true)).heap[g]? = some (regO ⟨z + 32, qs, true⟩) := heap_set HZ4.out _
          have hk5 : Kept (fun p => p = g) w4 (w4.setCell ⟨g, 2, none⟩ (.bool true)) := (Kept.refl (fun p => p = g) w4).setCell (p := ⟨g, 2, none⟩) rfl _
          have HZ5 := Lib.hid hz5
          have HK5 := Lib.hid hk5
          clear hz5 hk5
          obtain ⟨⟨p0, p1, p2⟩, f0, f1, f2⟩ := rzs (r := ⟨z + 32, qs, false⟩) HZ4.out
          obtain ⟨⟨c0, c1, c2⟩, h0, h1, h2⟩ := rzs (r := ⟨z + 32, s, true⟩) HC4.out
          clear h0 h1 h2
          go_upto_region 6 with fail
          clear p0 p1 p2 f0 f1 f2 c0 c1 c2
          simp only [regO] at HZ5
          generalize w4.setCell ⟨g, 2, none⟩ (.bool true) = w5 at *
          have hz6 : (w5.setCell ⟨g, 1, none⟩ (.string (qs ++ ⟨#[10]⟩))).heap[g]? = some (regO ⟨z + 32, qs ++ ⟨#[10]⟩, true⟩) := heap_set HZ5.out _
          have hk6 : Kept (fun p => p = g) w4 (w5.setCell ⟨g, 1, none⟩ (.string (qs ++ ⟨#[10]⟩))) := HK5.out.setCell (p := ⟨g, 1, none⟩) rfl _
          have HZ6 := Lib.hid hz6
          have HK6 := Lib.hid hk6
          clear hz6 hk6
          obtain ⟨⟨p0, p1, p2⟩, f0, f1, f2⟩ := rzs (r := ⟨z + 32, qs, true⟩) HZ5.out
          go_upto_region 8 with fail
          clear p0 p1 p2 f0 f1 f2
          simp only [regO] at HZ6
          generalize w5.setCell ⟨g, 1, none⟩ (.string (qs ++ ⟨#[10]⟩)) = w6 at *
          have hz7 : (w6.setCell ⟨g, 1, none⟩ (.string (qs ++ ⟨#[10]⟩ ++ s))).heap[g]? = some (regO ⟨z + 32, (qs ++ ⟨#[10]⟩ ++ s), true⟩) := heap_set HZ6.out _
          have hk7 : Kept (fun p => p = g) w4 (w6.setCell ⟨g, 1, none⟩ (.string (qs ++ ⟨#[10]⟩ ++ s))) := HK6.out.setCell (p := ⟨g, 1, none⟩) rfl _
          have HZ7 := Lib.hid hz7
          have HK7 := Lib.hid hk7
          clear hz7 hk7
          obtain ⟨⟨p0, p1, p2⟩, f0, f1, f2⟩ := rzs (r := ⟨z + 32, qs ++ ⟨#[10]⟩, true⟩) HZ6.out
          obtain ⟨⟨c0, c1, c2⟩, h0, h1, h2⟩ := rzs (r := ⟨z + 32, s, true⟩) (HK6.out.cellsAt HC4.out (fun e => HGC.out e))
          clear h0 h1 h2
          go_upto_region 9 with fail
          clear p0 p1 p2 f0 f1 f2 c0 c1 c2 ad1 ad2 ad3
          simp only [regO] at HZ7
          generalize w6.setCell ⟨g, 1, none⟩ (.string (qs ++ ⟨#[10]⟩ ++ s)) = w7 at *
          have HKW : Hid (Kept (fun _ => False) w w7) := HK4.out.fresh HK7.out (fun p hp e => by have e : p = g := e; have := HGB.out; omega)
          have HR7 := Lib.hid (HK7.out.cellsAt HR4.out (fun e => HGR.out e))
          have cC := check_any (qs ++ ⟨#[10]⟩ ++ s) w7 HJ1.out (HT.out.kept HKW.out id id)
          obtain ⟨⟨p0, p1, p2⟩, f0, f1, f2⟩ := rzs (r := ⟨z + 32, (qs ++ ⟨#[10]⟩ ++ s), true⟩) HZ7.out
          generalize (qs ++ ⟨#[10]⟩ ++ s) = JJ at *
          cases hm : mayB JJ with
          | true =>
            rw [if_pos hm] at cC
            have HE : Hid (F = bhV (some ⟨z + 32, JJ, true⟩)) := by show _ = _; rw [← HF.out, if_pos hm]
            clear hm
            have HH : Hid (∀ w8, Kept (fun _ => False) w7 w8 → (w8.cell? ⟨g, 0, none⟩ = some (.int .i64 (z + 32)) ∧ w8.cell? ⟨g, 1, none⟩ = some (.string JJ) ∧ w8.cell? ⟨g, 2, none⟩ = some (.bool true)) ∧ (w8.cell? ⟨rb, 0, none⟩ = some (.int .i64 0) ∧ w8.cell? ⟨rb, 1, none⟩ = some (.string ⟨#[]⟩) ∧ w8.cell? ⟨rb, 2, none⟩ = some (.bool false)) ∧ w8.frozen? ⟨rb, 0, none⟩ = false ∧ w8.frozen? ⟨rb, 1, none⟩ = false ∧ w8.frozen? ⟨rb, 2, none⟩ = false) := fun w8 hk => ⟨(rzs (r := ⟨z + 32, JJ, true⟩) (hk.cellsAt HZ7.out id)).1, (rzs (r := zReg) (hk.cellsAt HR7.out id)).1, (rzs (r := zReg) (hk.cellsAt HR7.out id)).2⟩
            go_wp2_with (go_at_call 17; refine cC.mono ?_; clear cC p0 p1 p2 f0 f1 f2; rintro e w8 ⟨rfl, hk8⟩; have HK8 := Lib.hid hk8; obtain ⟨⟨p0, p1, p2⟩, ⟨d0, d1, d2⟩, e0, e1, e2⟩ := HH.out w8 hk8; clear hk8)
            refine bodyPost_ret (res_reg2 rfl _ _ rb ⟨z + 32, JJ, true⟩ (0, 0) rfl (three (HK8.out.cellsAt HR7.out id) _ _ _)) rfl ⟨?_, (HKW.out.trans HK8.out).fresh (Kept.three (Kept.refl (fun q => q = rb) w8) rfl _ _ _) (fun q hq e => by have e : q = rb := e; have := HRB.out; omega)⟩
            rw [HE.out]
            rfl
          | false =>
            rw [if_neg (by rw [hm]; decide)] at cC
            have HE : Hid (F = bhV none) := by show _ = _; rw [← HF.out, if_neg (by rw [hm]; decide)]
            clear hm
            have HH : Hid (∀ w8, Kept (fun _ => False) w7 w8 → (w8.cell? ⟨g, 0, none⟩ = some (.int .i64 (z + 32)) ∧ w8.cell? ⟨g, 1, none⟩ = some (.string JJ) ∧ w8.cell? ⟨g, 2, none⟩ = some (.bool true)) ∧ (w8.cell? ⟨rb, 0, none⟩ = some (.int .i64 0) ∧ w8.cell? ⟨rb, 1, none⟩ = some (.string ⟨#[]⟩) ∧ w8.cell? ⟨rb, 2, none⟩ = some (.bool false)) ∧ w8.frozen? ⟨rb, 0, none⟩ = false ∧ w8.frozen? ⟨rb, 1, none⟩ = false ∧ w8.frozen? ⟨rb, 2, none⟩ = false) := fun w8 hk => ⟨(rzs (r := ⟨z + 32, JJ, true⟩) (hk.cellsAt HZ7.out id)).1, (rzs (r := zReg) (hk.cellsAt HR7.out id)).1, (rzs (r := zReg) (hk.cellsAt HR7.out id)).2⟩
            go_wp2_with (go_at_call 17; refine cC.mono ?_; clear cC p0 p1 p2 f0 f1 f2; rintro e w8 ⟨rfl, hk8⟩; have HK8 := Lib.hid hk8; obtain ⟨⟨p0, p1, p2⟩, ⟨d0, d1, d2⟩, e0, e1, e2⟩ := HH.out w8 hk8; clear hk8)
            refine bodyPost_ret (res_reg2 rfl _ _ rb zReg (0, 0) rfl (three (HK8.out.cellsAt HR7.out id) _ _ _)) rfl ⟨?_, (HKW.out.trans HK8.out).fresh (Kept.three (Kept.refl (fun q => q = rb) w8) rfl _ _ _) (fun q hq e => by have e : q = rb := e; have := HRB.out; omega)⟩
            rw [HE.out]
            rfl
      · cases b
        · have hjn : Rs.jn ⟨z + 32, qs, true⟩ s false = (qs ++ ⟨#[10]⟩ ++ s) := by
            unfold Rs.jn; rw [if_pos ⟨rfl, HEM.out⟩]
          have hbh : Rs.bh M z s false = if mayB (qs ++ ⟨#[10]⟩ ++ s) = true then some ⟨z + 32, (qs ++ ⟨#[10]⟩ ++ s), true⟩ else none := by
            unfold Rs.bh
            rw [HG.out]
            simp only [hjn]
            rfl
          rw [hbh] at HF
          clear hbh hjn
          have hz5 : (w4.setCell ⟨g, 2, none⟩ (.bool true)).heap[g]? = some (regO ⟨z + 32, qs, true⟩) := heap_set HZ4.out _
          have hk5 : Kept (fun p => p = g) w4 (w4.setCell ⟨g, 2, none⟩ (.bool true)) := (Kept.refl (fun p => p = g) w4).setCell (p := ⟨g, 2, none⟩) rfl _
          have HZ5 := Lib.hid hz5
          have HK5 := Lib.hid hk5
          clear hz5 hk5
          obtain ⟨⟨p0, p1, p2⟩, f0, f1, f2⟩ := rzs (r := ⟨z + 32, qs, true⟩) HZ4.out
          obtain ⟨⟨c0, c1, c2⟩, h0, h1, h2⟩ := rzs (r := ⟨z + 32, s, false⟩) HC4.out
          clear h0 h1 h2
          go_upto_region 6 with fail
          clear p0 p1 p2 f0 f1 f2 c0 c1 c2
          simp only [regO] at HZ5
          generalize w4.setCell ⟨g, 2, none⟩ (.bool true) = w5 at *
          have hz6 : (w5.setCell ⟨g, 1, none⟩ (.string (qs ++ ⟨#[10]⟩))).heap[g]? = some (regO ⟨z + 32, qs ++ ⟨#[10]⟩, true⟩) := heap_set HZ5.out _
          have hk6 : Kept (fun p => p = g) w4 (w5.setCell ⟨g, 1, none⟩ (.string (qs ++ ⟨#[10]⟩))) := HK5.out.setCell (p := ⟨g, 1, none⟩) rfl _
          have HZ6 := Lib.hid hz6
          have HK6 := Lib.hid hk6
          clear hz6 hk6
          obtain ⟨⟨p0, p1, p2⟩, f0, f1, f2⟩ := rzs (r := ⟨z + 32, qs, true⟩) HZ5.out
          go_upto_region 8 with fail
          clear p0 p1 p2 f0 f1 f2
          simp only [regO] at HZ6
          generalize w5.setCell ⟨g, 1, none⟩ (.string (qs ++ ⟨#[10]⟩)) = w6 at *
          have hz7 : (w6.setCell ⟨g, 1, none⟩ (.string (qs ++ ⟨#[10]⟩ ++ s))).heap[g]? = some (regO ⟨z + 32, (qs ++ ⟨#[10]⟩ ++ s), true⟩) := heap_set HZ6.out _
          have hk7 : Kept (fun p => p = g) w4 (w6.setCell ⟨g, 1, none⟩ (.string (qs ++ ⟨#[10]⟩ ++ s))) := HK6.out.setCell (p := ⟨g, 1, none⟩) rfl _
          have HZ7 := Lib.hid hz7
          have HK7 := Lib.hid hk7
          clear hz7 hk7
          obtain ⟨⟨p0, p1, p2⟩, f0, f1, f2⟩ := rzs (r := ⟨z + 32, qs ++ ⟨#[10]⟩, true⟩) HZ6.out
          obtain ⟨⟨c0, c1, c2⟩, h0, h1, h2⟩ := rzs (r := ⟨z + 32, s, false⟩) (HK6.out.cellsAt HC4.out (fun e => HGC.out e))
          clear h0 h1 h2
          go_upto_region 9 with fail
          clear p0 p1 p2 f0 f1 f2 c0 c1 c2 ad1 ad2 ad3
          simp only [regO] at HZ7
          generalize w6.setCell ⟨g, 1, none⟩ (.string (qs ++ ⟨#[10]⟩ ++ s)) = w7 at *
          have HKW : Hid (Kept (fun _ => False) w w7) := HK4.out.fresh HK7.out (fun p hp e => by have e : p = g := e; have := HGB.out; omega)
          have HR7 := Lib.hid (HK7.out.cellsAt HR4.out (fun e => HGR.out e))
          have cC := check_any (qs ++ ⟨#[10]⟩ ++ s) w7 HJ1.out (HT.out.kept HKW.out id id)
          obtain ⟨⟨p0, p1, p2⟩, f0, f1, f2⟩ := rzs (r := ⟨z + 32, (qs ++ ⟨#[10]⟩ ++ s), true⟩) HZ7.out
          generalize (qs ++ ⟨#[10]⟩ ++ s) = JJ at *
          cases hm : mayB JJ with
          | true =>
            rw [if_pos hm] at cC
            have HE : Hid (F = bhV (some ⟨z + 32, JJ, true⟩)) := by show _ = _; rw [← HF.out, if_pos hm]
            clear hm
            have HH : Hid (∀ w8, Kept (fun _ => False) w7 w8 → (w8.cell? ⟨g, 0, none⟩ = some (.int .i64 (z + 32)) ∧ w8.cell? ⟨g, 1, none⟩ = some (.string JJ) ∧ w8.cell? ⟨g, 2, none⟩ = some (.bool true)) ∧ (w8.cell? ⟨rb, 0, none⟩ = some (.int .i64 0) ∧ w8.cell? ⟨rb, 1, none⟩ = some (.string ⟨#[]⟩) ∧ w8.cell? ⟨rb, 2, none⟩ = some (.bool false)) ∧ w8.frozen? ⟨rb, 0, none⟩ = false ∧ w8.frozen? ⟨rb, 1, none⟩ = false ∧ w8.frozen? ⟨rb, 2, none⟩ = false) := fun w8 hk => ⟨(rzs (r := ⟨z + 32, JJ, true⟩) (hk.cellsAt HZ7.out id)).1, (rzs (r := zReg) (hk.cellsAt HR7.out id)).1, (rzs (r := zReg) (hk.cellsAt HR7.out id)).2⟩
            go_wp2_with (go_at_call 17; refine cC.mono ?_; clear cC p0 p1 p2 f0 f1 f2; rintro e w8 ⟨rfl, hk8⟩; have HK8 := Lib.hid hk8; obtain ⟨⟨p0, p1, p2⟩, ⟨d0, d1, d2⟩, e0, e1, e2⟩ := HH.out w8 hk8; clear hk8)
            refine bodyPost_ret (res_reg2 rfl _ _ rb ⟨z + 32, JJ, true⟩ (0, 0) rfl (three (HK8.out.cellsAt HR7.out id) _ _ _)) rfl ⟨?_, (HKW.out.trans HK8.out).fresh (Kept.three (Kept.refl (fun q => q = rb) w8) rfl _ _ _) (fun q hq e => by have e : q = rb := e; have := HRB.out; omega)⟩
            rw [HE.out]
            rfl
          | false =>
            rw [if_neg (by rw [hm]; decide)] at cC
            have HE : Hid (F = bhV none) := by show _ = _; rw [← HF.out, if_neg (by rw [hm]; decide)]
            clear hm
            have HH : Hid (∀ w8, Kept (fun _ => False) w7 w8 → (w8.cell? ⟨g, 0, none⟩ = some (.int .i64 (z + 32)) ∧ w8.cell? ⟨g, 1, none⟩ = some (.string JJ) ∧ w8.cell? ⟨g, 2, none⟩ = some (.bool true)) ∧ (w8.cell? ⟨rb, 0, none⟩ = some (.int .i64 0) ∧ w8.cell? ⟨rb, 1, none⟩ = some (.string ⟨#[]⟩) ∧ w8.cell? ⟨rb, 2, none⟩ = some (.bool false)) ∧ w8.frozen? ⟨rb, 0, none⟩ = false ∧ w8.frozen? ⟨rb, 1, none⟩ = false ∧ w8.frozen? ⟨rb, 2, none⟩ = false) := fun w8 hk => ⟨(rzs (r := ⟨z + 32, JJ, true⟩) (hk.cellsAt HZ7.out id)).1, (rzs (r := zReg) (hk.cellsAt HR7.out id)).1, (rzs (r := zReg) (hk.cellsAt HR7.out id)).2⟩
            go_wp2_with (go_at_call 17; refine cC.mono ?_; clear cC p0 p1 p2 f0 f1 f2; rintro e w8 ⟨rfl, hk8⟩; have HK8 := Lib.hid hk8; obtain ⟨⟨p0, p1, p2⟩, ⟨d0, d1, d2⟩, e0, e1, e2⟩ := HH.out w8 hk8; clear hk8)
            refine bodyPost_ret (res_reg2 rfl _ _ rb zReg (0, 0) rfl (three (HK8.out.cellsAt HR7.out id) _ _ _)) rfl ⟨?_, (HKW.out.trans HK8.out).fresh (Kept.three (Kept.refl (fun q => q = rb) w8) rfl _ _ _) (fun q hq e => by have e : q = rb := e; have := HRB.out; omega)⟩
            rw [HE.out]
            rfl
        · have hjn : Rs.jn ⟨z + 32, qs, true⟩ s true = (qs ++ ⟨#[10]⟩ ++ s) := by
            unfold Rs.jn; rw [if_pos ⟨rfl, HEM.out⟩]
          have hbh : Rs.bh M z s true = if mayB (qs ++ ⟨#[10]⟩ ++ s) = true then some ⟨z + 32, (qs ++ ⟨#[10]⟩ ++ s), true⟩ else none := by
            unfold Rs.bh
            rw [HG.out]
            simp only [hjn]
            rfl
          rw [hbh] at HF
          clear hbh hjn
          have hz5 : (w4.setCell ⟨g, 2, none⟩ (.bool true)).heap[g]? = some (regO ⟨z + 32, qs, true⟩) := heap_set HZ4.out _
          have hk5 : Kept (fun p => p = g) w4 (w4.setCell ⟨g, 2, none⟩ (.bool true)) := (Kept.refl (fun p => p = g) w4).setCell (p := ⟨g, 2, none⟩) rfl _
          have HZ5 := Lib.hid hz5
          have HK5 := Lib.hid hk5
          clear hz5 hk5
          obtain ⟨⟨p0, p1, p2⟩, f0, f1, f2⟩ := rzs (r := ⟨z + 32, qs, true⟩) HZ4.out
          obtain ⟨⟨c0, c1, c2⟩, h0, h1, h2⟩ := rzs (r := ⟨z + 32, s, true⟩) HC4.out
          clear h0 h1 h2
          go_upto_region 6 with fail
          clear p0 p1 p2 f0 f1 f2 c0 c1 c2
          simp only [regO] at HZ5
          generalize w4.setCell ⟨g, 2, none⟩ (.bool true) = w5 at *
          have hz6 : (w5.setCell ⟨g, 1, none⟩ (.string (qs ++ ⟨#[10]⟩))).heap[g]? = some (regO ⟨z + 32, qs ++ ⟨#[10]⟩, true⟩) := heap_set HZ5.out _
          have hk6 : Kept (fun p => p = g) w4 (w5.setCell ⟨g, 1, none⟩ (.string (qs ++ ⟨#[10]⟩))) := HK5.out.setCell (p := ⟨g, 1, none⟩) rfl _
          have HZ6 := Lib.hid hz6
          have HK6 := Lib.hid hk6
          clear hz6 hk6
          obtain ⟨⟨p0, p1, p2⟩, f0, f1, f2⟩ := rzs (r := ⟨z + 32, qs, true⟩) HZ5.out
          go_upto_region 8 with fail
          clear p0 p1 p2 f0 f1 f2
          simp only [regO] at HZ6
          generalize w5.setCell ⟨g, 1, none⟩ (.string (qs ++ ⟨#[10]⟩)) = w6 at *
          have hz7 : (w6.setCell ⟨g, 1, none⟩ (.string (qs ++ ⟨#[10]⟩ ++ s))).heap[g]? = some (regO ⟨z + 32, (qs ++ ⟨#[10]⟩ ++ s), true⟩) := heap_set HZ6.out _
          have hk7 : Kept (fun p => p = g) w4 (w6.setCell ⟨g, 1, none⟩ (.string (qs ++ ⟨#[10]⟩ ++ s))) := HK6.out.setCell (p := ⟨g, 1, none⟩) rfl _
          have HZ7 := Lib.hid hz7
          have HK7 := Lib.hid hk7
          clear hz7 hk7
          obtain ⟨⟨p0, p1, p2⟩, f0, f1, f2⟩ := rzs (r := ⟨z + 32, qs ++ ⟨#[10]⟩, true⟩) HZ6.out
          obtain ⟨⟨c0, c1, c2⟩, h0, h1, h2⟩ := rzs (r := ⟨z + 32, s, true⟩) (HK6.out.cellsAt HC4.out (fun e => HGC.out e))
          clear h0 h1 h2
          go_upto_region 9 with fail
          clear p0 p1 p2 f0 f1 f2 c0 c1 c2 ad1 ad2 ad3
          simp only [regO] at HZ7
          generalize w6.setCell ⟨g, 1, none⟩ (.string (qs ++ ⟨#[10]⟩ ++ s)) = w7 at *
          have HKW : Hid (Kept (fun _ => False) w w7) := HK4.out.fresh HK7.out (fun p hp e => by have e : p = g := e; have := HGB.out; omega)
          have HR7 := Lib.hid (HK7.out.cellsAt HR4.out (fun e => HGR.out e))
          have cC := check_any (qs ++ ⟨#[10]⟩ ++ s) w7 HJ1.out (HT.out.kept HKW.out id id)
          obtain ⟨⟨p0, p1, p2⟩, f0, f1, f2⟩ := rzs (r := ⟨z + 32, (qs ++ ⟨#[10]⟩ ++ s), true⟩) HZ7.out
          generalize (qs ++ ⟨#[10]⟩ ++ s) = JJ at *
          cases hm : mayB JJ with
          | true =>
            rw [if_pos hm] at cC
            have HE : Hid (F = bhV (some ⟨z + 32, JJ, true⟩)) := by show _ = _; rw [← HF.out, if_pos hm]
            clear hm
            have HH : Hid (∀ w8, Kept (fun _ => False) w7 w8 → (w8.cell? ⟨g, 0, none⟩ = some (.int .i64 (z + 32)) ∧ w8.cell? ⟨g, 1, none⟩ = some (.string JJ) ∧ w8.cell? ⟨g, 2, none⟩ = some (.bool true)) ∧ (w8.cell? ⟨rb, 0, none⟩ = some (.int .i64 0) ∧ w8.cell? ⟨rb, 1, none⟩ = some (.string ⟨#[]⟩) ∧ w8.cell? ⟨rb, 2, none⟩ = some (.bool false)) ∧ w8.frozen? ⟨rb, 0, none⟩ = false ∧ w8.frozen? ⟨rb, 1, none⟩ = false ∧ w8.frozen? ⟨rb, 2, none⟩ = false) := fun w8 hk => ⟨(rzs (r := ⟨z + 32, JJ, true⟩) (hk.cellsAt HZ7.out id)).1, (rzs (r := zReg) (hk.cellsAt HR7.out id)).1, (rzs (r := zReg) (hk.cellsAt HR7.out id)).2⟩
            go_wp2_with (go_at_call 17; refine cC.mono ?_; clear cC p0 p1 p2 f0 f1 f2; rintro e w8 ⟨rfl, hk8⟩; have HK8 := Lib.hid hk8; obtain ⟨⟨p0, p1, p2⟩, ⟨d0, d1, d2⟩, e0, e1, e2⟩ := HH.out w8 hk8; clear hk8)
            refine bodyPost_ret (res_reg2 rfl _ _ rb ⟨z + 32, JJ, true⟩ (0, 0) rfl (three (HK8.out.cellsAt HR7.out id) _ _ _)) rfl ⟨?_, (HKW.out.trans HK8.out).fresh (Kept.three (Kept.refl (fun q => q = rb) w8) rfl _ _ _) (fun q hq e => by have e : q = rb := e; have := HRB.out; omega)⟩
            rw [HE.out]
            rfl
          | false =>
            rw [if_neg (by rw [hm]; decide)] at cC
            have HE : Hid (F = bhV none) := by show _ = _; rw [← HF.out, if_neg (by rw [hm]; decide)]
            clear hm
            have HH : Hid (∀ w8, Kept (fun _ => False) w7 w8 → (w8.cell? ⟨g, 0, none⟩ = some (.int .i64 (z + 32)) ∧ w8.cell? ⟨g, 1, none⟩ = some (.string JJ) ∧ w8.cell? ⟨g, 2, none⟩ = some (.bool true)) ∧ (w8.cell? ⟨rb, 0, none⟩ = some (.int .i64 0) ∧ w8.cell? ⟨rb, 1, none⟩ = some (.string ⟨#[]⟩) ∧ w8.cell? ⟨rb, 2, none⟩ = some (.bool false)) ∧ w8.frozen? ⟨rb, 0, none⟩ = false ∧ w8.frozen? ⟨rb, 1, none⟩ = false ∧ w8.frozen? ⟨rb, 2, none⟩ = false) := fun w8 hk => ⟨(rzs (r := ⟨z + 32, JJ, true⟩) (hk.cellsAt HZ7.out id)).1, (rzs (r := zReg) (hk.cellsAt HR7.out id)).1, (rzs (r := zReg) (hk.cellsAt HR7.out id)).2⟩
            go_wp2_with (go_at_call 17; refine cC.mono ?_; clear cC p0 p1 p2 f0 f1 f2; rintro e w8 ⟨rfl, hk8⟩; have HK8 := Lib.hid hk8; obtain ⟨⟨p0, p1, p2⟩, ⟨d0, d1, d2⟩, e0, e1, e2⟩ := HH.out w8 hk8; clear hk8)
            refine bodyPost_ret (res_reg2 rfl _ _ rb zReg (0, 0) rfl (three (HK8.out.cellsAt HR7.out id) _ _ _)) rfl ⟨?_, (HKW.out.trans HK8.out).fresh (Kept.three (Kept.refl (fun q => q = rb) w8) rfl _ _ _) (fun q hq e => by have e : q = rb := e; have := HRB.out; omega)⟩
            rw [HE.out]
            rfl
end Go.Proofs.YtackgnkajffhiaaDoor
