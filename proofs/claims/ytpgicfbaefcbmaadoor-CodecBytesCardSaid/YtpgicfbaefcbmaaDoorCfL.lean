/-
  OPS: the law CodecBytes.
-/
import Derived.Test.YtpgicfbaefcbmaaDoorCfH
set_option linter.unusedVariables false
namespace Go.Proofs.YtpgicfbaefcbmaaDoor
open Go Go.RowKit

/-- A byte, turned. -/
def xz (a b : Int) : UInt8 := UInt8.ofNat (bits .xor .u8 a b).toNat
theorem bits_xz (a b : Int) : Value.int .u8 (bits .xor .u8 a b) = u8v (xz a b) := by
  obtain ⟨z, hz⟩ := bits_u8 a b
  have hl := z.toNat_lt
  unfold u8v xz
  rw [hz, Int.toNat_natCast, UInt8.toNat_ofNat', Nat.mod_eq_of_lt (by omega)]
theorem three_cells {W : World} {a b c : Value} {ty : TypeId} : ∀ j u, ([a, b, c] : List Value)[j]? = some u → (W.alloc (.cells #[a, b, c] ty)).cell? ((⟨W.heap.size, 0, none⟩ : Addr).add j) = some u := by
  intro j u hj
  rw [addr_add, cell_of_row _ _ _ _ _ _ (heap_alloc_new W _)]
  match j, hj with
  | 0, hj => simpa using hj
  | 1, hj => simpa using hj
  | 2, hj => simpa using hj
theorem three_str {a b c : ByteArray} : ∀ u ∈ ([Value.string a, .string b, .string c] : List Value), u.oneCell' = true := by
  intro u hu
  simp only [List.mem_cons, List.not_mem_nil, or_false] at hu
  rcases hu with rfl | rfl | rfl <;> rfl
/-- What the loops over turned bytes hold. -/
structure TxL (W8 w : World) (T0 : Value) (base : Nat) (v : Value) (n : Nat) (ts : List ByteArray) : Prop where
  tx : Txs w base v n ts
  own : ∀ j, v.ownBlock = some j → T0.ownBlock = some j ∨ W8.heap.size ≤ j
  kept : Kept (fun j => T0.ownBlock = some j) W8 w
theorem TxL.app {W8 w c : World} {T0 : Value} {base : Nat} {v v' : Value} {n : Nat} {ts : List ByteArray} (h : TxL W8 w T0 base v n ts) {m : Nat} {new : List ByteArray} {o : Obj} (hown : c.ownsRow base 9 1 v' (n + m) (ts.map .string ++ new.map .string)) (hg : (w.alloc o).grownBy c v.ownBlock)
    (hat : v'.ownBlock = v.ownBlock ∨ v'.ownBlock = some (w.alloc o).heap.size) (hm : new.length = m) (hs : ∀ t ∈ new, t.size ≤ 140737488351232) : TxL W8 c T0 base v' (n + m) (ts ++ new) := by
  have hk := h.kept.alloc o
  refine ⟨⟨by rw [List.map_append]; exact hown, by rw [List.length_append, h.tx.len, hm], fun t ht => ?_⟩, fun j hj => ?_, ⟨hg.os.trans hk.os, hg.tape.trans hk.tape, hg.output.trans hk.output, Nat.le_trans hk.size hg.size, fun k hk' hs' => (hg.block k (Nat.lt_of_lt_of_le hk' hk.size) (fun e => ?_)).trans (hk.block k hk' hs')⟩⟩
  · rcases List.mem_append.1 ht with ht | ht
    · exact h.tx.sz t ht
    · exact hs t ht
  · rcases hat with e | e
    · exact h.own j (e ▸ hj)
    · rw [e] at hj
      injection hj with hj
      exact .inr (by have := h.kept.size; have : (w.alloc o).heap.size = w.heap.size + 1 := by simp
                     omega)
  · rcases h.own k e.symm with e' | e'
    · exact hs' e'
    · omega
theorem TxL.keep {W8 w c : World} {T0 : Value} {base : Nat} {v : Value} {n : Nat} {ts : List ByteArray} (h : TxL W8 w T0 base v n ts) (hk : Kept (fun _ => False) w c) : TxL W8 c T0 base v n ts :=
  ⟨⟨ownsRow_kept h.tx.own hk (fun _ _ => id), h.tx.len, h.tx.sz⟩, h.own, h.kept.trans hk.any⟩
/-- A block of its own, written in between. -/
theorem TxL.in {W8 w c : World} {T0 : Value} {base g : Nat} {v : Value} {n : Nat} {ts : List ByteArray} (h : TxL W8 w T0 base v n ts) (hk : Kept (fun q => q = g) w c) (hv : ∀ j, v.ownBlock = some j → j ≠ g) (hg : W8.heap.size ≤ g) : TxL W8 c T0 base v n ts :=
  ⟨⟨ownsRow_kept h.tx.own hk hv, h.tx.len, h.tx.sz⟩, h.own, ⟨hk.os.trans h.kept.os, hk.tape.trans h.kept.tape, hk.output.trans h.kept.output, Nat.le_trans h.kept.size hk.size, fun k hk' hs' => (hk.block k (Nat.lt_of_lt_of_le hk' h.kept.size) (fun e => by have e : k = g := e; omega)).trans (h.kept.block k hk' hs')⟩⟩
theorem Txs.strs {w : World} {base : Nat} {v : Value} {n : Nat} {ts : List ByteArray} (h : Txs w base v n ts) : ∃ A c, v = .slice A n c ∧ Strs w A n ts ∧ n ≤ c := by
  have hcells : ∀ g, v.ownBlock = some g → ∀ j u, (ts.map Value.string)[j]? = some u → w.cell? ((⟨g, 0, none⟩ : Addr).add j) = some u := fun g hg => h.own.cells hg
  rcases h.own.2 with ⟨rfl, rfl⟩ | ⟨g, cap, cur, rfl, hb, _, hc, _⟩
  · have := h.len
    obtain rfl := List.eq_nil_of_length_eq_zero this
    exact ⟨none, 0, rfl, ⟨rfl, fun j x hj => by simp at hj⟩, Nat.le_refl _⟩
  · exact ⟨_, cap, rfl, ⟨h.len, fun j x hj => ⟨_, rfl, hcells g rfl j _ (by rw [List.getElem?_map, hj]; rfl), h.sz x (List.mem_of_getElem? hj)⟩⟩, hc⟩
theorem rtake_good (s : ByteArray) (w : World) (h : s.size = 21) (hd : Cd.opOk (Cd.dec s.data.toList)) :
    Calls Tryd.prog 16 #[.string s] w fun e w' => (∃ b : OpS, b.o = Cd.dec s.data.toList ∧ e = .returned (.tuple #[opV b, .bool true]) ∧ OpOk w' b) ∧ Kept (fun _ => False) w w' := by
  refine (rtake_any s w h).mono ?_
  rintro e w' ⟨hr, hk⟩
  refine ⟨?_, hk⟩
  rcases hr with ⟨_, b, h1, h2, h3⟩ | ⟨h, _⟩
  · exact ⟨b, h1, h2, h3⟩
  · exact absurd hd h
theorem rtake_bad (s : ByteArray) (w : World) (hs : s.size ≤ 140737488351232) (hd : ¬ (s.size = 21 ∧ Cd.opOk (Cd.dec s.data.toList))) :
    Calls Tryd.prog 16 #[.string s] w fun e w' => e = .returned (.tuple #[.agg zOp, .bool false]) ∧ Kept (fun _ => False) w w' := by
  by_cases h : s.size = 21
  · refine (rtake_any s w h).mono ?_
    rintro e w' ⟨hr, hk⟩
    refine ⟨?_, hk⟩
    rcases hr with ⟨h1, _⟩ | ⟨_, h2⟩
    · exact absurd ⟨h, h1⟩ hd
    · exact h2
  · exact rtake_len s w hs h
/-- The op of nothing. -/
def zOpS : OpS := ⟨⟨0, 0, 0, 0, 0, 0, 0, 0, []⟩, none, 0, 0⟩
theorem zOpS_ok (w : World) : OpOk w zOpS := ⟨⟨rfl, fun j x hj => by simp [zOpS] at hj⟩, (fun x hx => by simp [zOpS] at hx), by show 0 ≤ _; omega, Nat.le_refl _, by unfold I64s I64 zOpS; simp⟩
set_option maxRecDepth 100000 in
set_option maxHeartbeats 8000000 in
theorem codecBytes_any (p : AskM) (w : World) (h : AskMOk w p) (hT : Tabs w) : Calls Tryd.prog 3 #[.agg p.cells] w fun e w' => e = .returned (.bool true) ∧ Kept (fun _ => False) w w' := by
  have hK0 : Hid (Kept (fun _ => False) w (w.alloc (.cells p.cells 25))) := (Kept.refl _ w).alloc _
  have hP0 : PAs (w.alloc (.cells p.cells 25)) w.heap.size p := heap_alloc_new w _
  have HH : Hid (HeldA (w.alloc (.cells p.cells 25)) w.heap.size p) := ⟨hP0, h.kept hK0.out, hT.kept hK0.out id id⟩
  obtain ⟨i0, hi, hz0, hz1, hz2⟩ := info_parts info_str
  clear h hT hP0
  obtain ⟨O, m, mc, ops, X, n, nc, ss⟩ := p
  unfold AskM.cells at *
  simp only at *
  go_enter Tryd.func3, Tryd.ntmps3
  go_upto_region 1 with fail
  generalize hpb : w.heap.size = pb at *
  clear hpb
  generalize w.alloc (.cells #[.slice O m mc, .slice X n nc] 25) = w1 at *
  have p0 : w1.cell? ⟨pb, 0, none⟩ = some (.slice O m mc) := HH.out.pb.c 0
  have p1 : w1.cell? ⟨pb, 1, none⟩ = some (.slice X n nc) := HH.out.pb.c 1
  have cH := heavy25b_any _ w1 HH.out.ok
  unfold AskM.cells at cH
  simp only at cH
  go_wp2_with (first
    | (go_at_call 7; refine cH.mono ?_; rintro e w2 ⟨⟨B, rfl, hB⟩, hk2⟩; have HK2 := Lib.hid (hK0.out.trans hk2); have HH2 := Lib.hid (HH.out.kept hk2); have q1 := cell_kept hk2 p1 id; clear hk2 cH HH p0 p1; cases B)
    | (go_at_call 8; have hn3 : n ≤ 3000 := (by first | exact hB | exact hB rfl | simpa using hB); go_loud (refine (copystr_any X n nc ss w2 HH2.out.ok.ss (by omega)).mono ?_); rintro e w3 ⟨⟨T, rfl, hown⟩, hk3⟩; have HK3 := Lib.hid (HK2.out.trans hk3); have HKx := Lib.hid hk3; have HH3 := Lib.hid (HH2.out.kept hk3); have HW3 := Lib.hid hown; have hsz3 := hk3.size; clear hk3 hown))
  · have HTX : Hid (Txs w3 w2.heap.size T n ss) := ⟨HW3.out, HH3.out.ok.ss.1, fun t ht => by
      obtain ⟨j, hj, rfl⟩ := List.getElem_of_mem ht
      obtain ⟨_, _, _, hs⟩ := HH3.out.ok.ss.2 j _ (List.getElem?_eq_getElem hj)
      exact hs⟩
    obtain ⟨base, hbase⟩ : ∃ base, w2.heap.size = base := ⟨_, rfl⟩
    have HB3 : Hid (base ≤ w3.heap.size) := by show _ ≤ _; omega
    rw [hbase] at HTX
    have HBA := Lib.hid hbase
    have HK23 : Hid (Kept (fun _ => False) w2 w3) := HKx.out
    clear hB q1 HW3 hsz3 hbase HKx HK3 HH3
    go_loopw [3, 4] (fun v i wr => ∃ (k nT : Nat) (ts : List ByteArray) (T0 : Value), k ≤ 8 ∧ k ≤ m ∧ i = .int .i64 k ∧ v = T0 ∧ nT ≤ 3000 + 24 * k ∧ Txs wr base T0 nT ts ∧ base ≤ wr.heap.size ∧ Kept (fun _ => False) w2 wr) (fun _ i _ => 8 - (intOf i).toNat)
    case atStart => exact ⟨0, n, ss, _, Nat.zero_le _, Nat.zero_le _, rfl, rfl, by omega, HTX.out, HB3.out, HK23.out⟩
    case round =>
      obtain ⟨k, nT, ts, T0, hk8, hkm, rfl, hv, hnT, htx, hbs, hkept⟩ := hrel
      have hv2 := hv.symm
      subst hv2
      have HTX2 := Lib.hid htx
      have HBS := Lib.hid hbs
      have HH4 := Lib.hid (HH2.out.kept hkept)
      have HK4 := Lib.hid hkept
      clear htx hbs hkept HTX HB3 HK23
      have p0 : wr.cell? ⟨pb, 0, none⟩ = some (.slice O m mc) := HH4.out.pb.c 0
      by_cases hc : k < m ∧ k < 8
      · obtain ⟨hc1, hc2⟩ := hc
        have b1 : decide (k < m) = true := decide_eq_true hc1
        have b2 : decide ((k : Int) < (m : Int)) = true := decide_eq_true (by omega)
        have b3 : decide (k < 8) = true := decide_eq_true hc2
        have b4 : decide ((k : Int) < 8) = true := decide_eq_true (by omega)
        have t1 : (0 : Int) ≤ (k : Int) := by omega
        have t2 : (k : Int) < (m : Int) := by omega
        obtain ⟨ad, b, rfl, hb, h9, hok⟩ := HH4.out.ok.ops.at_ hc1
        have H9 := Lib.hid h9
        have HOK := Lib.hid hok
        have c0 := h9.c0
        have c1 := h9.c1
        have c2 := h9.c2
        have c3 := h9.c3
        have c4 := h9.c4
        have c5 := h9.c5
        have c6 := h9.c6
        have c7 := h9.c7
        have c8 := h9.c8
        have cY := copyop_any b wr HOK.out
        unfold opV at cY
        have HBB := Lib.hid hb
        clear hb h9 hok
        go_upto_region 8 with (go_at_call 9; refine cY.mono ?_; rintro e w4 ⟨⟨b', rfl, ho', hok', hfr⟩, hk4⟩; have HKa := Lib.hid hk4; have HOKa := Lib.hid hok'; have HOa := Lib.hid ho'; have HFR := Lib.hid hfr; clear hk4 hok' ho' hfr)
        have hk5 : Kept (fun _ => False) w4 (w4.alloc (opO b')) := (Kept.refl _ _).alloc _
        have h9b := op9_new (w := w4) (b := b')
        have hka := HKa.out.trans hk5
        have hokb := HOKa.out.kept hk5 (fun _ _ => id)
        have hszb := HKa.out.size
        simp only [opO] at hk5 h9b hka hokb
        clear cY c0 c1 c2 c3 c4 c5 c6 c7 c8
        generalize w4.alloc (.cells #[.int .i64 b'.o.kd, .int .i64 b'.o.t, .int .i64 b'.o.si, .int .i64 b'.o.t0, .int .i64 b'.o.s0, .int .i64 b'.o.rn, .int .i64 b'.o.st, .int .i64 b'.o.nn, .slice b'.A b'.n b'.c] 32) = w5 at *
        generalize w4.heap.size = ib at *
        have HIB : Hid (wr.heap.size ≤ ib) := hszb
        have H9b := Lib.hid h9b
        have HKb := Lib.hid hka
        have HOKb := Lib.hid hokb
        have HH5 := Lib.hid (HH4.out.kept hka)
        have H9c := Lib.hid (H9.out.kept hka id)
        have HOKc := Lib.hid (HOK.out.kept hka (fun _ _ => id))
        clear h9b hka hokb hszb hk5 H9 HOK p0 HKa HOKa
        obtain ⟨d0, d1, d2, d3, d4, d5, d6, d7, d8⟩ := H9b.out.cs
        by_cases ho : Cd.opOk b.o
        · have cB := pbytes_ok b' w5 HOKb.out HH5.out.tabs (by rw [HOa.out]; exact ho)
          have HHO := Lib.hid ho
          rw [show Cd.encB b'.o = Cd.encB b.o by rw [HOa.out]] at cB
          unfold opV at cB
          have cR := fun W (hk : Kept (fun _ => False) w5 W) => rop_any b W (HOKc.out.kept hk (fun _ _ => id))
          rw [decide_eq_true ho] at cR
          have cS := fun W (hk : Kept (fun _ => False) w5 W) => rbytes_any b W (HOKc.out.kept hk (fun _ _ => id)) ho
          unfold opV at cR cS
          have HS : Hid ((Cd.encB b.o).size = 21) := Cd.encB_size ho.2.2.2.1.1
          clear ho
          generalize Cd.encB b.o = S at *
          go_upto_region 10 with (go_at_call 10; refine cB.mono ?_; rintro e w6 ⟨rfl, hk6⟩; have HK6 := Lib.hid hk6; clear hk6)
          clear cB d0 d1 d2 d3 d4 d5 d6 d7 d8
          have h9d := H9c.out.kept HK6.out id
          have p0 : w6.cell? ⟨pb, 0, none⟩ = some (.slice (some ad) m mc) := (HH5.out.kept HK6.out).pb.c 0
          have c0 := h9d.c0
          have c1 := h9d.c1
          have c2 := h9d.c2
          have c3 := h9d.c3
          have c4 := h9d.c4
          have c5 := h9d.c5
          have c6 := h9d.c6
          have c7 := h9d.c7
          have c8 := h9d.c8
          clear h9d
          go_upto_region 12 with (first
            | (go_at_call 11; refine (cR _ HK6.out).mono ?_; rintro e w7 ⟨rfl, hk7⟩; have HK7 := Lib.hid (HK6.out.trans hk7); have p7 := cell_kept hk7 p0 id; have e0 := cell_kept hk7 c0 id; have e1 := cell_kept hk7 c1 id; have e2 := cell_kept hk7 c2 id; have e3 := cell_kept hk7 c3 id; have e4 := cell_kept hk7 c4 id; have e5 := cell_kept hk7 c5 id; have e6 := cell_kept hk7 c6 id; have e7 := cell_kept hk7 c7 id; have e8 := cell_kept hk7 c8 id; clear hk7 cR)
            | (go_at_call 12; refine (cS _ HK7.out).mono ?_; rintro e w8 ⟨rfl, hk8⟩; have HK8 := Lib.hid (HK7.out.trans hk8); clear hk8 cS))
          clear p0 c0 c1 c2 c3 c4 c5 c6 c7 c8 p7 e0 e1 e2 e3 e4 e5 e6 e7 e8
          have hT8 : TxL w8 w8 T0 base T0 nT ts := ⟨⟨ownsRow_kept HTX2.out.own (HKb.out.trans HK8.out) (fun _ _ => id), HTX2.out.len, HTX2.out.sz⟩, fun j hj => .inl hj, Kept.refl _ _⟩
          have HT8 := Lib.hid hT8
          have hown := hT8.tx.own
          have hbs8 : Hid (base ≤ w8.heap.size) := by show _ ≤ _; have := HBS.out; have := HKb.out.size; have := HK8.out.size; omega
          have hS := HS.out
          have t20 : (20 : Int) ≤ (S.size : Int) := by omega
          have hc20 := cut_size S 20 (by omega)
          have hx : (⟨#[120]⟩ : ByteArray).size = 1 := rfl
          generalize hys : ts.map Value.string = ys at *
          have HYS := Lib.hid hys
          clear hT8 hys
          go_upto_region 13 with (at_builtin; refine wpList_append_own_at _ rfl (.tmp 56) (.tmp 62) 23 rfl base 9 i0 (.string ⟨#[]⟩) 1 16 Tryd.underlying23 hi hz0 hz1 hz2 rfl (by decide) _ _ _ rfl (hown.alloc _) ⟨_, 0, none⟩ 3 3 [.string S, .string (S ++ ⟨#[120]⟩), .string (S.extract 0 20)] rfl rfl three_cells three_str (by unfold maxLen; omega) (by omega) (by have := hbs8.out; simp; omega) ?_; intro v9 w9 hown9 hgrow9 _ hat9; rw [← HYS.out] at hown9; have hT9 := HT8.out.app (m := 3) (new := [S, S ++ ⟨#[120]⟩, S.extract 0 20]) hown9 hgrow9 hat9 rfl (by intro t ht; simp only [List.mem_cons, List.not_mem_nil, or_false] at ht; rcases ht with rfl | rfl | rfl <;> first | omega | (rw [ByteArray.size_append]; omega)); have HT9 := Lib.hid hT9; clear hown9 hgrow9 hat9 hT9)
          have hsz8 := hbs8.out
          clear hown HT8 hc20 hx t20
          go_wp2_with fail
          go_loopw [3, 10] (fun v i wx => ∃ (q nU : Nat) (us : List ByteArray) (T1 : Value), q ≤ 21 ∧ i = .int .i64 q ∧ v = T1 ∧ nU ≤ 3000 + 24 * k + 3 + q ∧ TxL w8 wx T0 base T1 nU us) (fun _ i _ => 21 - (intOf i).toNat)
          case atStart => exact ⟨0, nT + 3, _, v9, Nat.zero_le _, rfl, rfl, by omega, HT9.out⟩
          case round =>
            obtain ⟨q, nU, us, T1, hq21, rfl, hv, hnU, htl⟩ := hrel
            have hv2 := hv.symm
            subst hv2
            have HTL := Lib.hid htl
            clear htl HT9
            by_cases hq : q < 21
            · have e1 : decide (q < 21) = true := decide_eq_true hq
              have e2 : decide ((q : Int) < 21) = true := decide_eq_true (by omega)
              have t3 : (0 : Int) ≤ (q : Int) := by omega
              have t4 : (q : Int) < (S.size : Int) := by omega
              have t5 : (q : Int) < 21 := by omega
              obtain ⟨cap, wc, hcv, hkc, hszc, hby⟩ := conv_bytes S wr
              have hql : q < S.data.toList.length := by rw [ba_len]; omega
              obtain ⟨y, hy⟩ : ∃ y, S.data.toList[q]? = some y := ⟨_, List.getElem?_eq_getElem hql⟩
              obtain ⟨f0, f1⟩ := hby.cell hy
              have HBY := Lib.hid hby
              have HKC := Lib.hid hkc
              have HSZC := Lib.hid hszc
              have HQL := Lib.hid hql
              clear hby hkc hy hszc hql
              generalize hgb : wr.heap.size = g at *
              have HGB := Lib.hid hgb
              clear hgb
              have es : IntKind.i64.wrap ((k : Int) + (q : Int)) = ((k + q : Nat) : Int) := by rw [IntWalk.i64_in _ ⟨by omega, by omega⟩]; omega
              obtain ⟨r, hr8, htm⟩ : ∃ r : Nat, r < 8 ∧ ((k : Int) + (q : Int)).tmod 8 = (r : Int) := ⟨(k + q) % 8, by omega, by rw [Int.tmod_eq_emod_of_nonneg (by omega)]; omega⟩
              obtain ⟨zv, hsh⟩ : ∃ zv, Op.shift .shl .u8 1 .i64 (r : Int) = pure (Value.int .u8 zv) := ⟨_, shift_shl_u8 .i64 1 (r : Int) (by omega) (by omega)⟩
              clear hr8
              go_upto_region 17 with fail
              clear hcv
              go_region_law (fail)
              all_goals
                have hset : Bys (wc.setCell ⟨g, q, none⟩ (.int .u8 (bits .xor .u8 (y.toNat : Int) zv))).drew g (S.data.toList.set q (xz (y.toNat : Int) zv)) := by
                  rw [bits_xz]
                  exact ⟨(HBY.out.set q _ HQL.out).h⟩
                have hTX : TxL w8 (wc.setCell ⟨g, q, none⟩ (.int .u8 (bits .xor .u8 (y.toNat : Int) zv))).drew T0 base T1 nU us :=
                  (HTL.out.keep HKC.out).in (((Kept.refl (fun q => q = g) wc).setCell (p := ⟨g, q, none⟩) rfl _).drew) (fun j hj e => by have := (HTL.out.tx.own.lt j hj).2; have := HGB.out; omega) (by have := HTL.out.kept.size; have := HGB.out; omega)
                have hbsx : base ≤ (wc.setCell ⟨g, q, none⟩ (.int .u8 (bits .xor .u8 (y.toNat : Int) zv))).drew.heap.size := by
                  have := HTL.out.kept.size
                  have := (((Kept.refl (fun q => q = g) wc).setCell (p := ⟨g, q, none⟩) rfl (.int .u8 (bits .xor .u8 (y.toNat : Int) zv))).drew).size
                  have := HKC.out.size
                  omega
                have hlen : (S.data.toList.set q (xz (y.toNat : Int) zv)).length = 21 := by rw [List.length_set, ba_len]; exact hS
                have hcv2 := hset.back (cap := cap) hlen
                have HZS : Hid ((⟨(S.data.toList.set q (xz (y.toNat : Int) zv)).toArray⟩ : ByteArray).size = 21) := by
                  show _ = _
                  rw [← ba_len]
                  exact hlen
                generalize (⟨(S.data.toList.set q (xz (y.toNat : Int) zv)).toArray⟩ : ByteArray) = Z at *
                generalize (wc.setCell ⟨g, q, none⟩ (.int .u8 (bits .xor .u8 (y.toNat : Int) zv))).drew = wx at *
                have HTX3 := Lib.hid hTX
                have HBX := Lib.hid hbsx
                have hown := hTX.tx.own
                generalize hys : us.map Value.string = ys at *
                have HYS3 := Lib.hid hys
                clear hTX hys hset hlen hbsx f0 f1 hsh htm es
                go_wp2_with (at_builtin; refine wpList_append_own_at _ rfl (.tmp 83) (.tmp 86) 23 rfl base 9 i0 (.string ⟨#[]⟩) 1 16 Tryd.underlying23 hi hz0 hz1 hz2 rfl (by decide) _ _ _ rfl (hown.alloc _) ⟨_, 0, none⟩ 1 1 [.string Z] rfl rfl one_cells one_str (by unfold maxLen; omega) (by omega) (by have := HBX.out; simp; omega) ?_; intro v10 w10 hown10 hgrow10 _ hat10; rw [← HYS3.out] at hown10; have hT10 := HTX3.out.app (m := 1) (new := [Z]) hown10 hgrow10 hat10 rfl (by intro t ht; simp only [List.mem_cons, List.not_mem_nil, or_false] at ht; subst ht; have := HZS.out; omega); have HT10 := Lib.hid hT10; clear hown10 hgrow10 hat10 hT10)
                go_roundw
                case rel => exact ⟨q + 1, nU + 1, _, _, by omega, by go_num, rfl, by omega, HT10.out⟩
                case measure => simp [intOf] <;> omega
            · have hq2 : q = 21 := by omega
              have e2 : decide ((q : Int) < 21) = false := decide_eq_false (by omega)
              have e1 : decide (q < 21) = false := decide_eq_false (by omega)
              clear hq2
              have hT0 : ∀ j, T0.ownBlock = some j → base ≤ j ∧ j < ib := fun j hj => by
                have h1 := HTX2.out.own.lt j hj
                have h2 := HIB.out
                omega
              have hkk := HTL.out.kept
              have hk28 := HK4.out.trans (HKb.out.trans HK8.out)
              have HKW := Lib.hid (hk28.fresh hkk (fun j hj e => by have := (hT0 j e).1; have := HBA.out; omega))
              have HHW := Lib.hid (HH2.out.kept HKW.out)
              have H9e := Lib.hid ((H9b.out.kept HK8.out id).kept hkk (fun e => by have := (hT0 _ e).2; simp only at this; omega))
              have HOKe := Lib.hid ((HOKb.out.kept HK8.out (fun _ _ => id)).kept hkk (fun a ha e => by have h1 := HFR.out a ha; have h2 := HTX2.out.own.lt _ e; omega))
              obtain ⟨ad2, b2, had2, hb2, h92, hok2⟩ := HHW.out.ok.ops.at_ hc1
              obtain ⟨ea, eb⟩ : ad2 = ad ∧ b2 = b := ⟨by injection had2 with h; exact h.symm, by rw [HBB.out] at hb2; injection hb2 with h; exact h.symm⟩
              rw [ea, eb] at h92
              rw [eb] at hok2
              clear ea eb had2 hb2
              have H9f := Lib.hid h92
              have HOKf := Lib.hid hok2
              have p0 : wr.cell? ⟨pb, 0, none⟩ = some (.slice (some ad) m mc) := HHW.out.pb.c 0
              have P0 := Lib.hid p0
              clear hkk hk28 h92 hok2 hT0 p0
              go_upto_region 19 with fail
              have hdr : Kept (fun _ => False) wr wr.drew := (Kept.refl _ _).drew
              have KA := k19 (w' := wr.drew) P0.out (H9e.out.kept hdr id) (H9f.out.kept hdr id)
              have cE := eqop_yes b' b wr.drew (HOKe.out.kept hdr (fun _ _ => id)) (HOKf.out.kept hdr (fun _ _ => id)) HOa.out
              unfold opV at cE
              clear hdr
              go_cut [106] from 88 to 106 (fun v wx => v = .bool false ∧ Kept (fun _ => False) wr wx)
              case first =>
                go_region_held3 (fun w' => w'.cell? ⟨pb, 0, none⟩ = some (.slice (some ad) m mc) ∧ w'.cell? ⟨ib, 0, none⟩ = some (.int .i64 b'.o.kd) ∧ w'.cell? ⟨ib, 1, none⟩ = some (.int .i64 b'.o.t) ∧ w'.cell? ⟨ib, 2, none⟩ = some (.int .i64 b'.o.si) ∧ w'.cell? ⟨ib, 3, none⟩ = some (.int .i64 b'.o.t0) ∧ w'.cell? ⟨ib, 4, none⟩ = some (.int .i64 b'.o.s0) ∧ w'.cell? ⟨ib, 5, none⟩ = some (.int .i64 b'.o.rn) ∧ w'.cell? ⟨ib, 6, none⟩ = some (.int .i64 b'.o.st) ∧ w'.cell? ⟨ib, 7, none⟩ = some (.int .i64 b'.o.nn) ∧ w'.cell? ⟨ib, 8, none⟩ = some (.slice b'.A b'.n b'.c) ∧ w'.cell? (ad.add (k * 9)) = some (.int .i64 b.o.kd) ∧ w'.cell? ⟨(ad.add (k * 9)).block, (ad.add (k * 9)).off + 1, none⟩ = some (.int .i64 b.o.t) ∧ w'.cell? ⟨(ad.add (k * 9)).block, (ad.add (k * 9)).off + 2, none⟩ = some (.int .i64 b.o.si) ∧ w'.cell? ⟨(ad.add (k * 9)).block, (ad.add (k * 9)).off + 3, none⟩ = some (.int .i64 b.o.t0) ∧ w'.cell? ⟨(ad.add (k * 9)).block, (ad.add (k * 9)).off + 4, none⟩ = some (.int .i64 b.o.s0) ∧ w'.cell? ⟨(ad.add (k * 9)).block, (ad.add (k * 9)).off + 5, none⟩ = some (.int .i64 b.o.rn) ∧ w'.cell? ⟨(ad.add (k * 9)).block, (ad.add (k * 9)).off + 6, none⟩ = some (.int .i64 b.o.st) ∧ w'.cell? ⟨(ad.add (k * 9)).block, (ad.add (k * 9)).off + 7, none⟩ = some (.int .i64 b.o.nn) ∧ w'.cell? ⟨(ad.add (k * 9)).block, (ad.add (k * 9)).off + 8, none⟩ = some (.slice b.A b.n b.c))
                  (first | with_reducible exact KB | with_reducible exact KA)
                  (first
                    | (go_at_call 13; refine (num25_any _ _).mono ?_; rintro e w' ⟨rfl, hw⟩; have hw2 := hw.symm; subst hw2)
                    | (go_at_call 14; refine cE.mono ?_; rintro e w17 ⟨rfl, hk17⟩; have HK17 := Lib.hid (((Kept.refl (fun _ => False) wr).drew).trans hk17); have KB := k19 (w' := w17) (cell_kept HK17.out P0.out id) (H9e.out.kept HK17.out id) (H9f.out.kept HK17.out id); clear hk17))
                all_goals
                  go_wp2_with fail
                  go_meet
                  exact ⟨rfl, HK17.out⟩
              case rest =>
                obtain ⟨rfl, hk17⟩ := hcut
                have HK17 := Lib.hid hk17
                have HTL17 := Lib.hid (HTL.out.keep hk17)
                clear hk17 KA cE
                go_wp2_with fail
                go_roundw
                case rel => exact ⟨k + 1, nU, us, _, by omega, by omega, by go_num, rfl, by omega, HTL17.out.tx, by have := HTL17.out.kept.size; omega, HKW.out.trans HK17.out⟩
                case measure => simp [intOf] <;> omega
        · have cB := pbytes_no b' w5 HOKb.out HH5.out.tabs (by rw [HOa.out]; exact ho)
          unfold opV at cB
          have cR := fun W (hk : Kept (fun _ => False) w5 W) => rop_any b W (HOKc.out.kept hk (fun _ _ => id))
          rw [decide_eq_false ho] at cR
          unfold opV at cR
          clear ho
          go_upto_region 10 with (go_at_call 10; refine cB.mono ?_; rintro e w6 ⟨rfl, hk6⟩; have HK6 := Lib.hid hk6; clear hk6)
          clear cB d0 d1 d2 d3 d4 d5 d6 d7 d8
          have h9d := H9c.out.kept HK6.out id
          have p0 : w6.cell? ⟨pb, 0, none⟩ = some (.slice (some ad) m mc) := (HH5.out.kept HK6.out).pb.c 0
          have c0 := h9d.c0
          have c1 := h9d.c1
          have c2 := h9d.c2
          have c3 := h9d.c3
          have c4 := h9d.c4
          have c5 := h9d.c5
          have c6 := h9d.c6
          have c7 := h9d.c7
          have c8 := h9d.c8
          clear h9d
          go_upto_region 19 with (go_at_call 11; refine (cR _ HK6.out).mono ?_; rintro e w7 ⟨rfl, hk7⟩; have HK7 := Lib.hid (HK6.out.trans hk7); clear hk7)
          clear p0 c0 c1 c2 c3 c4 c5 c6 c7 c8 cR
          have HH7 := Lib.hid (HH5.out.kept HK7.out)
          have H9e := Lib.hid (H9b.out.kept HK7.out id)
          have H9f := Lib.hid (H9c.out.kept HK7.out id)
          have HOKe := Lib.hid (HOKb.out.kept HK7.out (fun _ _ => id))
          have HOKf := Lib.hid (HOKc.out.kept HK7.out (fun _ _ => id))
          have p0 : w7.cell? ⟨pb, 0, none⟩ = some (.slice (some ad) m mc) := HH7.out.pb.c 0
          have P0 := Lib.hid p0
          clear p0
          have hdr : Kept (fun _ => False) w7 w7.drew := (Kept.refl _ _).drew
          have KA := k19 (w' := w7.drew) P0.out (H9e.out.kept hdr id) (H9f.out.kept hdr id)
          have cE := eqop_yes b' b w7.drew (HOKe.out.kept hdr (fun _ _ => id)) (HOKf.out.kept hdr (fun _ _ => id)) HOa.out
          unfold opV at cE
          clear hdr
          go_cut [106] from 88 to 106 (fun v wx => v = .bool false ∧ Kept (fun _ => False) w7 wx)
          case first =>
            go_region_held3 (fun w' => w'.cell? ⟨pb, 0, none⟩ = some (.slice (some ad) m mc) ∧ w'.cell? ⟨ib, 0, none⟩ = some (.int .i64 b'.o.kd) ∧ w'.cell? ⟨ib, 1, none⟩ = some (.int .i64 b'.o.t) ∧ w'.cell? ⟨ib, 2, none⟩ = some (.int .i64 b'.o.si) ∧ w'.cell? ⟨ib, 3, none⟩ = some (.int .i64 b'.o.t0) ∧ w'.cell? ⟨ib, 4, none⟩ = some (.int .i64 b'.o.s0) ∧ w'.cell? ⟨ib, 5, none⟩ = some (.int .i64 b'.o.rn) ∧ w'.cell? ⟨ib, 6, none⟩ = some (.int .i64 b'.o.st) ∧ w'.cell? ⟨ib, 7, none⟩ = some (.int .i64 b'.o.nn) ∧ w'.cell? ⟨ib, 8, none⟩ = some (.slice b'.A b'.n b'.c) ∧ w'.cell? (ad.add (k * 9)) = some (.int .i64 b.o.kd) ∧ w'.cell? ⟨(ad.add (k * 9)).block, (ad.add (k * 9)).off + 1, none⟩ = some (.int .i64 b.o.t) ∧ w'.cell? ⟨(ad.add (k * 9)).block, (ad.add (k * 9)).off + 2, none⟩ = some (.int .i64 b.o.si) ∧ w'.cell? ⟨(ad.add (k * 9)).block, (ad.add (k * 9)).off + 3, none⟩ = some (.int .i64 b.o.t0) ∧ w'.cell? ⟨(ad.add (k * 9)).block, (ad.add (k * 9)).off + 4, none⟩ = some (.int .i64 b.o.s0) ∧ w'.cell? ⟨(ad.add (k * 9)).block, (ad.add (k * 9)).off + 5, none⟩ = some (.int .i64 b.o.rn) ∧ w'.cell? ⟨(ad.add (k * 9)).block, (ad.add (k * 9)).off + 6, none⟩ = some (.int .i64 b.o.st) ∧ w'.cell? ⟨(ad.add (k * 9)).block, (ad.add (k * 9)).off + 7, none⟩ = some (.int .i64 b.o.nn) ∧ w'.cell? ⟨(ad.add (k * 9)).block, (ad.add (k * 9)).off + 8, none⟩ = some (.slice b.A b.n b.c))
              (first | with_reducible exact KB | with_reducible exact KA)
              (first
                | (go_at_call 13; refine (num25_any _ _).mono ?_; rintro e w' ⟨rfl, hw⟩; have hw2 := hw.symm; subst hw2)
                | (go_at_call 14; refine cE.mono ?_; rintro e w17 ⟨rfl, hk17⟩; have HK17 := Lib.hid (((Kept.refl (fun _ => False) w7).drew).trans hk17); have KB := k19 (w' := w17) (cell_kept HK17.out P0.out id) (H9e.out.kept HK17.out id) (H9f.out.kept HK17.out id); clear hk17))
            all_goals
              go_wp2_with fail
              go_meet
              exact ⟨rfl, HK17.out⟩
          case rest =>
            obtain ⟨rfl, hk17⟩ := hcut
            have HK17 := Lib.hid (HK7.out.trans hk17)
            clear hk17 KA cE
            go_wp2_with fail
            go_roundw
            case rel => exact ⟨k + 1, nT, ts, _, by omega, by omega, by go_num, rfl, by omega, ⟨ownsRow_kept HTX2.out.own (HKb.out.trans HK17.out) (fun _ _ => id), HTX2.out.len, HTX2.out.sz⟩, by have := HBS.out; have := (HKb.out.trans HK17.out).size; omega, HK4.out.trans (HKb.out.trans HK17.out)⟩
            case measure => simp [intOf] <;> omega
      · go_upto_region 5 with fail
        go_cut [30] from 22 to 30 (fun v wx => v = .bool false ∧ wr = wx)
        case first =>
          by_cases hm : k < m
          · have b1 : decide (k < m) = true := decide_eq_true hm
            have b2 : decide ((k : Int) < (m : Int)) = true := decide_eq_true (by omega)
            have b3 : decide (k < 8) = false := decide_eq_false (by omega)
            have b4 : decide ((k : Int) < 8) = false := decide_eq_false (by omega)
            clear hc hm hk8 hkm
            go_wp2_with fail
            go_meet
            exact ⟨rfl, rfl⟩
          · have b1 : decide (k < m) = false := decide_eq_false hm
            have b2 : decide ((k : Int) < (m : Int)) = false := decide_eq_false (by omega)
            clear hc hm hk8 hkm
            go_wp2_with fail
            go_meet
            exact ⟨rfl, rfl⟩
        case rest =>
          obtain ⟨rfl, hw⟩ := hcut
          subst hw
          obtain ⟨X1, c1, e1, hX1, hX2⟩ := HTX2.out.strs
          subst e1
          have HX1 := Lib.hid hX1
          have hN : nT ≤ 4000 := by omega
          have HKr := Lib.hid (HK2.out.trans HK4.out)
          clear p0 hc hX1 hX2 hnT
          go_wp2_with fail
          go_loopw [12] (fun v wx => ∃ j : Nat, j ≤ nT ∧ v = .int .i64 j ∧ Kept (fun _ => False) wr wx) (fun v _ => nT - (intOf v).toNat)
          case atStart => exact ⟨0, Nat.zero_le _, rfl, Kept.refl _ _⟩
          case round =>
            obtain ⟨j, hjn, rfl, hkept⟩ := hrel
            have HKj := Lib.hid hkept
            have HTj := Lib.hid (HH4.out.tabs.kept hkept id id)
            clear hkept
            by_cases hc : j < nT
            · have b1 : decide (j < nT) = true := decide_eq_true hc
              have b2 : decide ((j : Int) < (nT : Int)) = true := decide_eq_true (by omega)
              have t1 : (0 : Int) ≤ (j : Int) := by omega
              have t2 : (j : Int) < (nT : Int) := by omega
              obtain ⟨xd, s, rfl, hs, hcs, hsz⟩ := (HX1.out.kept HKj.out).cell hc
              clear hs
              by_cases hd : s.size = 21 ∧ Cd.opOk (Cd.dec s.data.toList)
              · have cT := ptake_good s _ hd.1 hd.2 HTj.out
                have cK := fun W => rtake_good s W hd.1 hd.2
                unfold opV at cT cK
                clear hd hsz
                go_upto_region 25 with (go_at_call 15; refine cT.mono ?_; rintro e w5 ⟨⟨x1, ho1, rfl, hok1⟩, hk5⟩; have HK5 := Lib.hid hk5; have HOK1 := Lib.hid hok1; have HO1 := Lib.hid ho1; clear hk5 hok1 ho1)
                have hk6 : Kept (fun _ => False) w5 (w5.alloc (opO x1)) := (Kept.refl _ _).alloc _
                have h9b := op9_new (w := w5) (b := x1)
                have hokb := HOK1.out.kept hk6 (fun _ _ => id)
                have hcs6 := cell_kept (HK5.out.trans hk6) hcs id
                have HKs := Lib.hid (HKj.out.trans (HK5.out.trans hk6))
                simp only [opO] at h9b hokb hcs6 HKs
                clear cT hk6 hcs
                generalize w5.alloc (.cells #[.int .i64 x1.o.kd, .int .i64 x1.o.t, .int .i64 x1.o.si, .int .i64 x1.o.t0, .int .i64 x1.o.s0, .int .i64 x1.o.rn, .int .i64 x1.o.st, .int .i64 x1.o.nn, .slice x1.A x1.n x1.c] 32) = w6 at *
                generalize w5.heap.size = o1 at *
                have H9b := Lib.hid h9b
                have HOKb := Lib.hid hokb
                clear h9b hokb
                go_upto_region 26 with (go_at_call 16; refine (cK _).mono ?_; rintro e w7 ⟨⟨x2, ho2, rfl, hok2⟩, hk7⟩; have HK7 := Lib.hid hk7; have HOK2 := Lib.hid hok2; have HO2 := Lib.hid ho2; clear hk7 hok2 ho2)
                have hk8 : Kept (fun _ => False) w7 (w7.alloc (opO x2)) := (Kept.refl _ _).alloc _
                have h9c := op9_new (w := w7) (b := x2)
                have hokc := HOK2.out.kept hk8 (fun _ _ => id)
                have h9b := H9b.out.kept (HK7.out.trans hk8) id
                have hokb := HOKb.out.kept (HK7.out.trans hk8) (fun _ _ => id)
                have HKt := Lib.hid (HKs.out.trans (HK7.out.trans hk8))
                simp only [opO] at h9c hokc h9b hokb HKt
                clear cK hk8 hcs6
                generalize w7.alloc (.cells #[.int .i64 x2.o.kd, .int .i64 x2.o.t, .int .i64 x2.o.si, .int .i64 x2.o.t0, .int .i64 x2.o.s0, .int .i64 x2.o.rn, .int .i64 x2.o.st, .int .i64 x2.o.nn, .slice x2.A x2.n x2.c] 32) = w8 at *
                generalize w7.heap.size = o2 at *
                obtain ⟨c0, c1, c2, c3, c4, c5, c6, c7, c8⟩ := h9b.cs
                obtain ⟨d0, d1, d2, d3, d4, d5, d6, d7, d8⟩ := h9c.cs
                have cE := eqop_yes x1 x2 w8 hokb hokc (by rw [HO1.out, HO2.out])
                unfold opV at cE
                clear h9b h9c hokb hokc
                go_wp2_with (first
                  | (go_at_call 13; refine (num25_any _ _).mono ?_; rintro e w' ⟨rfl, hw⟩; have hw2 := hw.symm; subst hw2)
                  | (go_at_call 14; refine cE.mono ?_; rintro e w9 ⟨rfl, hk9⟩; have HK9 := Lib.hid (HKt.out.trans hk9); clear hk9))
                go_roundw
                case rel => exact ⟨j + 1, by omega, by go_num, HK9.out⟩
                case measure => simp [intOf] <;> omega
              · have cT := ptake_bad s _ hsz hd HTj.out
                have cK := fun W => rtake_bad s W hsz hd
                clear hd hsz
                go_upto_region 25 with (go_at_call 15; refine cT.mono ?_; rintro e w5 ⟨rfl, hk5⟩; have HK5 := Lib.hid hk5; clear hk5)
                have hk6 : Kept (fun _ => False) w5 (w5.alloc (opO zOpS)) := (Kept.refl _ _).alloc _
                have h9b := op9_new (w := w5) (b := zOpS)
                have hcs6 := cell_kept (HK5.out.trans hk6) hcs id
                have HKs := Lib.hid (HKj.out.trans (HK5.out.trans hk6))
                simp only [opO, zOpS] at h9b hcs6 HKs
                clear cT hk6 hcs
                generalize w5.alloc (.cells #[.int .i64 0, .int .i64 0, .int .i64 0, .int .i64 0, .int .i64 0, .int .i64 0, .int .i64 0, .int .i64 0, .slice none 0 0] 32) = w6 at *
                generalize w5.heap.size = o1 at *
                have H9b := Lib.hid h9b
                clear h9b
                go_upto_region 26 with (go_at_call 16; refine (cK _).mono ?_; rintro e w7 ⟨rfl, hk7⟩; have HK7 := Lib.hid hk7; clear hk7)
                have hk8 : Kept (fun _ => False) w7 (w7.alloc (opO zOpS)) := (Kept.refl _ _).alloc _
                have h9c := op9_new (w := w7) (b := zOpS)
                have h9b := H9b.out.kept (HK7.out.trans hk8) id
                have HKt := Lib.hid (HKs.out.trans (HK7.out.trans hk8))
                simp only [opO, zOpS] at h9c h9b HKt
                clear cK hk8 hcs6
                generalize w7.alloc (.cells #[.int .i64 0, .int .i64 0, .int .i64 0, .int .i64 0, .int .i64 0, .int .i64 0, .int .i64 0, .int .i64 0, .slice none 0 0] 32) = w8 at *
                generalize w7.heap.size = o2 at *
                obtain ⟨c0, c1, c2, c3, c4, c5, c6, c7, c8⟩ := h9b.cs
                obtain ⟨d0, d1, d2, d3, d4, d5, d6, d7, d8⟩ := h9c.cs
                simp only at c0 c1 c2 c3 c4 c5 c6 c7 c8 d0 d1 d2 d3 d4 d5 d6 d7 d8
                have cE := eqop_yes zOpS zOpS w8 (zOpS_ok w8) (zOpS_ok w8) rfl
                unfold opV zOpS at cE
                simp only at cE
                clear h9b h9c
                go_wp2_with (first
                  | (go_at_call 13; refine (num25_any _ _).mono ?_; rintro e w' ⟨rfl, hw⟩; have hw2 := hw.symm; subst hw2)
                  | (go_at_call 14; refine cE.mono ?_; rintro e w9 ⟨rfl, hk9⟩; have HK9 := Lib.hid (HKt.out.trans hk9); clear hk9))
                go_roundw
                case rel => exact ⟨j + 1, by omega, by go_num, HK9.out⟩
                case measure => simp [intOf] <;> omega
            · obtain rfl : j = nT := by omega
              have b1 : decide (j < j) = false := decide_eq_false (by omega)
              have b2 : decide ((j : Int) < (j : Int)) = false := decide_eq_false (by omega)
              go_wp2_with (go_at_call 17; refine (wakes25_any _ HTj.out).mono ?_; rintro e w9 ⟨rfl, hk9⟩; have HK9 := Lib.hid (HKr.out.trans (HKj.out.trans hk9)); clear hk9)
              go_ret
              exact ⟨rfl, HK9.out⟩
  · go_ret
    exact ⟨rfl, HK2.out⟩
end Go.Proofs.YtpgicfbaefcbmaaDoor
