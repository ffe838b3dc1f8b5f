/-
  CAUSAL ORDER: operations copied and compared; a row of the call's own that grows beside what it holds.
-/
import Derived.Test.YthkohjijppbliaaDoorCaN
import Derived.Test.YthkohjijppbliaaDoorCfC
set_option linter.unusedVariables false
namespace Go.Proofs.YthkohjijppbliaaDoor
open Go Go.RowKit

theorem Nums.kept' {S : Nat → Prop} {w w' : World} {A : Option Addr} {m : Nat} {xs : List Int} (h : Nums w A m xs) (hk : Kept S w w') (hs : 0 < m → ∀ a, A = some a → ¬ S a.block) : Nums w' A m xs := by
  by_cases hm : 0 < m
  · exact h.kept hk (hs hm)
  · refine ⟨h.1, fun j x hj => ?_⟩
    have h1 := (List.getElem?_eq_some_iff.1 hj).1
    have h2 := h.1
    omega
theorem OpOk.kept' {S : Nat → Prop} {w w' : World} {b : OpS} (h : OpOk w b) (hk : Kept S w w') (hs : 0 < b.n → ∀ a, b.A = some a → ¬ S a.block) : OpOk w' b := ⟨h.seen.kept' hk hs, h.nums, h.n, h.cap, h.ints⟩
theorem OpOk.lt {w : World} {b : OpS} (h : OpOk w b) (h0 : 0 < b.n) {a : Addr} (ha : b.A = some a) : a.block < w.heap.size := by
  obtain ⟨ad, x, e, _, hc⟩ := h.seen.one h0
  rw [ha] at e
  injection e with e
  subst e
  have := World.block_lt_of_cell? w _ hc
  rwa [add_blk] at this
theorem OpsM.lt {w : World} {A : Option Addr} {n : Nat} {al : List OpS} (h : OpsM w A n al) (h0 : 0 < n) {a : Addr} (ha : A = some a) : a.block < w.heap.size := by
  obtain ⟨ad, b, e, _, h9, _⟩ := h.at_ h0
  rw [ha] at e
  injection e with e
  subst e
  have := World.block_lt_of_cell? w _ h9.c0
  rwa [add_blk] at this
theorem OpsM.kept' {S : Nat → Prop} {w w' : World} {A : Option Addr} {n : Nat} {al : List OpS} (h : OpsM w A n al) (hk : Kept S w w') (hs : 0 < n → ∀ a, A = some a → ¬ S a.block) (hb : ∀ b ∈ al, 0 < b.n → ∀ a, b.A = some a → ¬ S a.block) : OpsM w' A n al := by
  refine ⟨h.1, fun j b hj => ?_⟩
  have h0 : 0 < n := by
    have h1 := (List.getElem?_eq_some_iff.1 hj).1
    have h2 := h.1
    omega
  obtain ⟨⟨ad, e, r⟩, ho⟩ := h.2 j b hj
  exact ⟨⟨ad, e, r.kept hk (by rw [add_blk]; exact hs h0 ad e)⟩, ho.kept' hk (hb b (List.mem_of_getElem? hj))⟩
theorem OpsM.oks {w : World} {A : Option Addr} {n : Nat} {al : List OpS} (h : OpsM w A n al) : ∀ q ∈ al, OpOk w q := fun q hq => by
  obtain ⟨i, hi, rfl⟩ := List.getElem_of_mem hq
  exact (h.2 i _ (List.getElem?_eq_getElem hi)).2
theorem own_vm {w : World} {B n : Nat} {v : Value} {xs : List Int} (h : w.ownsRow B 3 1 v n (xs.map (.int .i64))) (hl : xs.length = n) (h0 : 0 < n) : ∃ g c, v = .slice (some ⟨g, 0, none⟩) n c ∧ Vm w g c xs ∧ B ≤ g := by
  rcases h.2 with ⟨_, hn⟩ | ⟨g, cap, cur, rfl, hb, hh, hcap, _, hcs, hct⟩
  · omega
  · exact ⟨g, cap, rfl, ⟨⟨cur, hh, by rw [hcs, Nat.mul_one], by rw [hl]; simpa using hct⟩, by rw [hl]; exact hcap⟩, hb⟩
set_option maxRecDepth 100000 in
set_option maxHeartbeats 1000000 in
theorem copynum_vm (A : Option Addr) (n c : Nat) (xs : List Int) (w : World) (hA : Nums w A n xs) (hn : n ≤ 100000) (h0 : 0 < n) :
    Calls Tryd.prog 56 #[.slice A n c] w fun e w' => (∃ g c', e = .returned (.slice (some ⟨g, 0, none⟩) n c') ∧ Vm w' g c' xs ∧ w.heap.size ≤ g) ∧ Kept (fun _ => False) w w' := by
  obtain ⟨i0, hi, hz0, hz1, hz2⟩ := info_parts info_int
  have HA := Lib.hid hA
  clear hA
  go_enter Tryd.func56, Tryd.ntmps56
  go_wp2_with fail
  go_loopw [3, 4] (fun v i wr => ∃ k : Nat, k ≤ n ∧ i = .int .i64 k ∧ wr.ownsRow w.heap.size 3 1 v k ((xs.take k).map (.int .i64)) ∧ Kept (fun _ => False) w wr) (fun _ i _ => n - (intOf i).toNat)
  case atStart => exact ⟨0, Nat.zero_le _, rfl, World.ownsRow_nil _ _ _ _, Kept.refl _ _⟩
  case round =>
    obtain ⟨k, hk, rfl, hown, hkept⟩ := hrel
    have HK := Lib.hid hkept
    have hszk := hkept.size
    have HSZ := Lib.hid hszk
    clear hkept hszk
    by_cases hkn : k < n
    · obtain ⟨ad, x, rfl, hx, f0⟩ := (HA.out.kept HK.out (fun _ _ => id)).cell hkn
      have HST := Lib.hid (take_map hx)
      generalize (xs.take k).map (Value.int .i64) = ys at *
      have b1 : decide (k < n) = true := decide_eq_true hkn
      have b2 : decide ((k : Int) < (n : Int)) = true := decide_eq_true (by omega)
      have t1 : (0 : Int) ≤ (k : Int) := by omega
      have t2 : (k : Int) < (n : Int) := by omega
      clear hx
      go_wp2_with (at_builtin; refine wpList_append_own_at _ rfl (.tmp 11) (.tmp 16) 40 rfl w.heap.size 3 i0 (.int .i64 0) 1 8 Tryd.underlying40 hi hz0 hz1 hz2 rfl (by decide) _ _ _ rfl (hown.alloc _) ⟨_, 0, none⟩ 1 1 [.int .i64 x] rfl rfl one_cells one_int (by unfold maxLen; omega) (by omega) (by have := HSZ.out; simp; omega) ?_; intro v' w4 hown' hgrow _ hat; have HK4 := Lib.hid (Kept.grew (HK.out.alloc _) hgrow (fun b hb => (hown.lt b hb).1)); have HO4 := Lib.hid hown'; clear hown' hgrow hat)
      go_roundw
      case rel => exact ⟨k + 1, by omega, by go_num, by rw [HST.out]; exact HO4.out, HK4.out⟩
      case measure => simp [intOf] <;> omega
    · obtain rfl : k = n := by omega
      have b1 : decide (k < k) = false := decide_eq_false (by omega)
      have b2 : decide ((k : Int) < (k : Int)) = false := decide_eq_false (by omega)
      rw [List.take_of_length_le (by rw [HA.out.1]; exact Nat.le_refl _)] at hown
      obtain ⟨g, c', rfl, hV, hbs⟩ := own_vm hown HA.out.1 h0
      have HV := Lib.hid hV
      have HBS := Lib.hid hbs
      clear hV hown hbs
      go_wp2_with fail
      go_ret
      exact ⟨⟨g, c', rfl, HV.out, HBS.out⟩, HK.out⟩

/-- A row of the call's own, of operations that lie apart from it. -/
structure Tg (w : World) (B : Nat) (T : Value) (bl : List OpS) : Prop where
  own : w.ownsRow B 42 9 T bl.length (flatO bl)
  ok : ∀ q ∈ bl, OpOk w q
  apart : ∀ q ∈ bl, 0 < q.n → ∀ a, q.A = some a → ¬ T.ownBlock = some a.block
theorem tg_nil (w : World) (B : Nat) : Tg w B (.slice none 0 0) [] := ⟨World.ownsRow_nil _ _ _ _, (fun q hq => by cases hq), fun q hq => by cases hq⟩
theorem Tg.keep {w w' : World} {B : Nat} {T : Value} {bl : List OpS} (h : Tg w B T bl) (hk : Kept (fun _ => False) w w') : Tg w' B T bl :=
  ⟨ownsRow_kept h.own hk (fun _ _ => id), fun q hq => (h.ok q hq).kept hk (fun _ _ => id), h.apart⟩
theorem Tg.keepS {S : Nat → Prop} {w w' : World} {B : Nat} {T : Value} {bl : List OpS} (h : Tg w B T bl) (hk : Kept S w w') (hT : ∀ g, T.ownBlock = some g → ¬ S g) (hq : ∀ q ∈ bl, 0 < q.n → ∀ a, q.A = some a → ¬ S a.block) : Tg w' B T bl :=
  ⟨ownsRow_kept h.own hk hT, fun q hm => (h.ok q hm).kept' hk (hq q hm), h.apart⟩
/-- What a row's growth leaves. -/
theorem grown_kept {w w0 w' : World} {T : Value} (hk0 : Kept (fun _ => False) w0 w) (hg : w.grownBy w' T.ownBlock) : Kept (fun z => T.ownBlock = some z) w0 w' :=
  hk0.any.trans ⟨hg.os, hg.tape, hg.output, hg.size, fun k hk hs => hg.block k hk (fun e => hs e.symm)⟩
theorem Tg.apps {w w1 w' : World} {B : Nat} {T T' : Value} {bl l : List OpS} (h : Tg w B T bl) (h1 : Kept (fun _ => False) w w1) (hl : ∀ q ∈ l, OpOk w q) (hla : ∀ q ∈ l, 0 < q.n → ∀ a, q.A = some a → ¬ T.ownBlock = some a.block)
    (hown : w'.ownsRow B 42 9 T' (bl ++ l).length (flatO (bl ++ l))) (hg : w1.grownBy w' T.ownBlock) (hat : T'.ownBlock = T.ownBlock ∨ T'.ownBlock = some w1.heap.size) : Tg w' B T' (bl ++ l) := by
  have hk := grown_kept h1 hg
  have hok : ∀ q ∈ bl ++ l, OpOk w q ∧ (0 < q.n → ∀ a, q.A = some a → ¬ T.ownBlock = some a.block) := fun q hq => by
    rcases List.mem_append.1 hq with hq | hq
    · exact ⟨h.ok q hq, h.apart q hq⟩
    · exact ⟨hl q hq, hla q hq⟩
  refine ⟨hown, fun q hq => (hok q hq).1.kept' hk (hok q hq).2, fun q hq h0 a ha e => ?_⟩
  rcases hat with e2 | e2
  · rw [e2] at e
    exact (hok q hq).2 h0 a ha e
  · rw [e2] at e
    injection e with e
    have h3 := (hok q hq).1.lt h0 ha
    have h4 := h1.size
    omega
/-- Operations appended to a row of the call's own: what it tells, in any region. -/
theorem run_app_ops {w : World} {base : Nat} {v : Value} {bl : List OpS} (hown : w.ownsRow base 42 9 v bl.length (flatO bl)) (A : Option Addr) (m c : Nat) (l : List OpS) (hM : OpsM w A m l) (hC : A = none → m = 0 ∧ c = 0) (hb : bl.length + m ≤ 100000) (hbase : base ≤ w.heap.size) (ty : TypeId) :
    ∃ v' w', (Builtin.append_ #[23, 23] ty #[v, .slice A m c]).run Tryd.prog w = .ok v' w' ∧ w'.ownsRow base 42 9 v' (bl ++ l).length (flatO (bl ++ l)) ∧ w.grownBy w' v.ownBlock ∧ (v'.ownBlock = v.ownBlock ∨ v'.ownBlock = some w.heap.size) := by
  obtain ⟨i0, hi, hz0, hz1, hz2⟩ := info_parts info_op
  have hl := hM.1
  match A, hM, hC with
  | none, hM, hC =>
    obtain ⟨rfl, rfl⟩ := hC rfl
    obtain rfl := List.eq_nil_of_length_eq_zero hl
    rw [List.append_nil]
    exact ⟨v, w, run_append_owned_none (P := Tryd.prog) (w := w) base 23 ty 42 i0 9 Tryd.underlying23 hi v bl.length (flatO bl) hown, hown, ⟨rfl, rfl, rfl, Nat.le_refl _, fun _ _ _ => rfl⟩, .inl rfl⟩
  | some ad, hM, hC =>
    obtain ⟨v', w', h1, h2, h3, _, h5⟩ := run_append_own_at (P := Tryd.prog) w base 23 ty 42 i0 (.agg #[.int .i64 0, .int .i64 0, .int .i64 0, .int .i64 0, .int .i64 0, .int .i64 0, .int .i64 0, .int .i64 0, .slice none 0 0]) 9 88 Tryd.underlying23 hi hz0 hz1 hz2 rfl (by decide) v bl.length (flatO bl) hown ad m c (flatO l) (by rw [flatO_len, hl]) (ops_news hM) flatO_one (by unfold maxLen; omega) (by omega) hbase
    exact ⟨v', w', h1, by rw [List.length_append, hl, flatO_app]; exact h2, h3, h5⟩
theorem wpList_app_ops {w : World} {ops : Array Oper} {rest : List Oper} {o : Oper} {a : Act} {Q : Exit → Act → World → Prop} (hgd : o.guard = none) (s x : Operand) (ho : o.op = .call { callee := .builtin .append, args := #[s, x], argTypes := #[23, 23] })
    (base : Nat) (v : Value) (bl : List OpS) (hs : a.eval s = v) (hown : w.ownsRow base 42 9 v bl.length (flatO bl)) (A : Option Addr) (m c : Nat) (l : List OpS) (hx : a.eval x = .slice A m c) (hM : OpsM w A m l) (hC : A = none → m = 0 ∧ c = 0) (hb : bl.length + m ≤ 100000) (hbase : base ≤ w.heap.size)
    (hK : ∀ v' w', w'.ownsRow base 42 9 v' (bl ++ l).length (flatO (bl ++ l)) → w.grownBy w' v.ownBlock → (v'.ownBlock = v.ownBlock ∨ v'.ownBlock = some w.heap.size) → wpList Tryd.prog ops Q rest (a.put o.dst v') w') : wpList Tryd.prog ops Q (o :: rest) a w := by
  refine wpList_plain hgd fun K hK' => ?_
  obtain ⟨v', w', hrun, h1, h2, h3⟩ := run_app_ops hown A m c l hM hC hb hbase o.type
  unfold Oper.wp
  simp [execOp, ho, resolve, invoke, builtin, hs, hx, hrun, Result.andThen]
  exact hK' _ _ (hK v' w' h1 h2 h3)
theorem step_app_ops {w : World} {ops : Array Oper} {o : Oper} {a : Act} {K : Act → World → Prop} {Q : Exit → Act → World → Prop} {E : Prop} (hgd : o.guard = none) (s x : Operand) (ho : o.op = .call { callee := .builtin .append, args := #[s, x], argTypes := #[23, 23] })
    (base : Nat) (v : Value) (bl : List OpS) (hs : a.eval s = v) (hown : w.ownsRow base 42 9 v bl.length (flatO bl)) (A : Option Addr) (m c : Nat) (l : List OpS) (hx : a.eval x = .slice A m c) (hM : OpsM w A m l) (hC : A = none → m = 0 ∧ c = 0) (hb : bl.length + m ≤ 100000) (hbase : base ≤ w.heap.size)
    (hK : ∀ v' w', w'.ownsRow base 42 9 v' (bl ++ l).length (flatO (bl ++ l)) → w.grownBy w' v.ownBlock → (v'.ownBlock = v.ownBlock ∨ v'.ownBlock = some w.heap.size) → K (a.put o.dst v') w') :
    if Region.wanted o (yielded ops a.tmps) = true then Oper.wp Tryd.prog o a w K Q else E := by
  have hw : Region.wanted o (yielded ops a.tmps) = true := by simp [Region.wanted, hgd]
  rw [if_pos hw]
  obtain ⟨v', w', hrun, h1, h2, h3⟩ := run_app_ops hown A m c l hM hC hb hbase o.type
  unfold Oper.wp
  simp [execOp, ho, resolve, invoke, builtin, hs, hx, hrun, Result.andThen]
  exact hK v' w' h1 h2 h3
/-- One, just laid, as a slice. -/
theorem one_new (w : World) (b : OpS) (hb : OpOk w b) : OpsM (w.alloc (opO b)) (some ⟨w.heap.size, 0, none⟩) 1 [b] :=
  ⟨rfl, fun k q hk => by
    match k, hk with
    | 0, hk =>
      cases hk
      refine ⟨⟨_, rfl, ?_⟩, hb.kept ((Kept.refl (fun _ => False) w).alloc _) (fun _ _ => id)⟩
      rw [Nat.zero_mul]
      exact op9_new⟩
set_option maxRecDepth 100000 in
set_option maxHeartbeats 4000000 in
theorem copyops_any (A : Option Addr) (n c : Nat) (al : List OpS) (w : World) (hA : OpsM w A n al) (hn : n ≤ 20000) :
    Calls Tryd.prog 6 #[.slice A n c] w fun e w' => (∃ T bl, e = .returned T ∧ Tg w' w.heap.size T bl ∧ bl.map (·.o) = al.map (·.o) ∧ ∀ q ∈ bl, ∀ a, q.A = some a → w.heap.size ≤ a.block) ∧ Kept (fun _ => False) w w' := by
  have HA := Lib.hid hA
  have HLN : Hid (al.length = n) := hA.1
  clear hA
  go_enter Tryd.func6, Tryd.ntmps6
  go_wp2_with fail
  go_loopw [3, 4] (fun v i wr => ∃ (k : Nat) (T : Value) (bl : List OpS), k ≤ n ∧ i = .int .i64 k ∧ v = T ∧ Tg wr w.heap.size T bl ∧ bl.map (·.o) = (al.take k).map (·.o) ∧ (∀ q ∈ bl, ∀ a, q.A = some a → w.heap.size ≤ a.block) ∧ Kept (fun _ => False) w wr) (fun _ i _ => n - (intOf i).toNat)
  case atStart => exact ⟨0, _, [], Nat.zero_le _, rfl, rfl, tg_nil _ _, rfl, (fun q hq => by cases hq), Kept.refl _ _⟩
  case round =>
    obtain ⟨k, T, bl, hk, rfl, hT, htg, hbl, hfr, hkept⟩ := hrel
    have hT2 := hT.symm
    subst hT2
    have HK := Lib.hid hkept
    have HTG := Lib.hid htg
    have HBL := Lib.hid hbl
    have HFR := Lib.hid hfr
    clear hkept htg hbl hfr
    by_cases hlt : k < n
    · obtain ⟨ad, b, rfl, hb, h9, hok⟩ := (HA.out.kept HK.out (fun _ _ => id) (fun _ _ _ _ => id)).at_ hlt
      have cC := copyop_any b wr hok
      have HTK : Hid ((al.take (k + 1)).map (·.o) = (al.take k).map (·.o) ++ [b.o]) := by
        show _ = _
        rw [List.take_add_one, hb]
        simp
      obtain ⟨c0, c1, c2, c3, c4, c5, c6, c7, c8⟩ := h9
      obtain ⟨⟨kd, t, si, t0, s0, rn, st, nn, seen⟩, B, m, mc⟩ := b
      simp only at c0 c1 c2 c3 c4 c5 c6 c7 c8
      have b1 : decide (k < n) = true := decide_eq_true hlt
      have b2 : decide ((k : Int) < (n : Int)) = true := decide_eq_true (by omega)
      have t1 : (0 : Int) ≤ (k : Int) := by omega
      have t2 : (k : Int) < (n : Int) := by omega
      have hbn : bl.length ≤ n := by
        have h := congrArg List.length HBL.out
        rw [List.length_map, List.length_map, List.length_take] at h
        omega
      clear hb hok
      unfold opV at cC
      simp only at cC
      go_wp2_with (first
        | (go_at_call 28; refine cC.mono ?_; clear cC; rintro e w5 ⟨⟨b', rfl, ho', hok', hf'⟩, hk5⟩; have HK5 := Lib.hid hk5; have HO5 := Lib.hid ho'; have HF5 := Lib.hid hf'; have HB5 := Lib.hid hok'; have HT5 := Lib.hid (HTG.out.keep hk5); have hM5 := one_new w5 b' hok'; have hown := HT5.out.own.alloc (opO b'); have hbs : w.heap.size ≤ (w5.alloc (opO b')).heap.size := (by have h1 := (HK.out.trans hk5).size; have h2 := ((Kept.refl (fun _ => False) w5).alloc (opO b')).size; omega); obtain ⟨⟨kd', t', si', t0', s0', rn', st', nn', seen'⟩, B', m', mc'⟩ := b'; simp only [opO] at hM5 hown hbs; clear ho' hok' hf' hk5)
        | (at_builtin; refine wpList_app_ops rfl (.tmp 11) (.tmp 17) rfl w.heap.size T bl rfl hown (some ⟨_, 0, none⟩) 1 1 _ rfl hM5 (fun h => by cases h) (by simp; omega) hbs ?_; intro T7 w7 hown7 hgrow7 hat7; have hk6 : Kept (fun _ => False) w5 (w5.alloc (opO ⟨⟨kd', t', si', t0', s0', rn', st', nn', seen'⟩, B', m', mc'⟩)) := (Kept.refl _ _).alloc _; have HT7 : Hid (Tg w7 w.heap.size T7 (bl ++ [⟨⟨kd', t', si', t0', s0', rn', st', nn', seen'⟩, B', m', mc'⟩])) := HT5.out.apps hk6 (fun q hq => by obtain rfl := List.mem_singleton.1 hq; exact HB5.out) (fun q hq h0 a ha e => by obtain rfl := List.mem_singleton.1 hq; have h1 := HF5.out a ha; have h2 := (HTG.out.own.lt _ e).2; omega) hown7 hgrow7 hat7; have HK7 := Lib.hid (Kept.grew ((HK.out.trans HK5.out).trans hk6) hgrow7 (fun q hq => (HTG.out.own.lt q hq).1)); clear hown7 hgrow7 hat7 hk6))
      go_roundw
      case rel => exact ⟨k + 1, T7, _, by omega, by go_num, rfl, HT7.out, by rw [HTK.out, List.map_append, HBL.out]; exact congrArg (fun z => (al.take k).map (·.o) ++ [z]) HO5.out, fun q hq a ha => by
        rcases List.mem_append.1 hq with hq | hq
        · exact HFR.out q hq a ha
        · obtain rfl := List.mem_singleton.1 hq
          have h1 := HF5.out a ha
          have h2 := HK.out.size
          omega, HK7.out⟩
      case measure => simp [intOf] <;> omega
    · obtain rfl : k = n := by omega
      have b1 : decide (k < k) = false := decide_eq_false (by omega)
      have b2 : decide ((k : Int) < (k : Int)) = false := decide_eq_false (by omega)
      go_wp2_with fail
      go_ret
      exact ⟨⟨T, rfl, bl, HTG.out, by rw [HBL.out, List.take_of_length_le (by have := HLN.out; omega)], HFR.out⟩, HK.out⟩
end Go.Proofs.YthkohjijppbliaaDoor
