/-
  TREES: whether one may be (where it may); a tree of one text; what a tree's text is.
  TREES: nodes copied; a copy of a tree that stands at another node.
-/
import Derived.Test.YthbfmdnibijapaaDoorHz02
import Derived.Laws.Slices
import Derived.Deep.Slices
import Derived.Laws.ResultCell
import Derived.Laws.Rows
set_option linter.unusedVariables false
namespace Go.Proofs.YthbfmdnibijapaaDoor
open Go Go.RowKit

set_option maxRecDepth 100000 in
theorem run_ncut_h (w : World) (A : Option Addr) (n c hi : Nat) (H : Int) (hH : H = hi) (h2 : hi ≤ c) :
    (Instr.slice 22 (.slice A n c) none (some (.int .i64 H)) none).run Tryd.prog w = .ok (.slice A hi c) w := by
  subst hH
  rw [run_slice_h (P := Tryd.prog) w 22 A n c Tryd.underlying22 .i64 _ (by omega) (by omega)]
  have hz : ((sizeOf (Tryd.prog.elem 22)).run Tryd.prog w) = .ok 4 w := by kernel_rfl
  rw [hz]
  cases A with
  | none => simp [Result.andThen, sliced]
  | some a => simp [Result.andThen, sliced, Addr.add]
theorem Ng.take {w : World} {A : Option Addr} {n i : Nat} {L : List NodeS} (h : Ng w A n L) (hi : i ≤ n) : Ng w A i (L.take i) :=
  ⟨by rw [List.length_take, h.len]; omega, fun k e he => by
    rw [List.getElem?_take] at he
    split at he
    · exact h.at' k e he
    · cases he⟩
abbrev treeV (v : Value) (cur : Int) : Value := .agg #[v, .int .i64 cur]
abbrev treeO (v : Value) (cur : Int) : Obj := .cells #[v, .int .i64 cur] 24
/-- A node that may stand behind others. -/
def OkN (P : List NodeS) (e : NodeS) : Prop := Pl P e ∧ 0 ≤ e.at_ ∧ e.at_ ≤ 4000 ∧ mayB e.tx = true
/-- A tree that may be. -/
structure MayT (L : List NodeS) (cur : Int) : Prop where
  ge : 1 ≤ L.length
  le : L.length ≤ 64
  ok : ∀ i e, L[i]? = some e → OkN (L.take i) e
  cu : 0 ≤ idx L cur
theorem ok_srt {L : List NodeS} (h : ∀ i e, L[i]? = some e → OkN (L.take i) e) : Srt L := by
  have step : ∀ (d i : Nat) (a b : NodeS), L[i]? = some a → L[i + d + 1]? = some b → a.sq < b.sq := by
    intro d
    induction d with
    | zero =>
      intro i a b ha hb
      have h1 := (h (i + 0 + 1) b hb).1
      have h2 : (L.take (i + 0 + 1)).getLast? = some a := by
        have hl : i < L.length := by
          rcases Nat.lt_or_ge i L.length with h | h
          · exact h
          · rw [List.getElem?_eq_none h] at ha; cases ha
        rw [List.getLast?_eq_getElem?, List.length_take, List.getElem?_take, if_pos (by omega), show min (i + 0 + 1) L.length - 1 = i by omega]
        exact ha
      exact ((pl_some h2).1 h1).1
    | succ d ih =>
      intro i a b ha hb
      have hl : i + d + 1 + 1 < L.length := by
        rcases Nat.lt_or_ge (i + d + 1 + 1) L.length with h | h
        · exact h
        · rw [show i + (d + 1) + 1 = i + d + 1 + 1 by omega, List.getElem?_eq_none h] at hb; cases hb
      have hm : L[i + d + 1]? = some L[i + d + 1] := List.getElem?_eq_getElem (by omega)
      have h1 := ih i a _ ha hm
      have h2 := (h (i + (d + 1) + 1) b hb).1
      have h3 : (L.take (i + (d + 1) + 1)).getLast? = some L[i + d + 1] := by
        rw [List.getLast?_eq_getElem?, List.length_take, List.getElem?_take, if_pos (by omega), show min (i + (d + 1) + 1) L.length - 1 = i + d + 1 by omega]
        exact hm
      have h4 := ((pl_some h3).1 h2).1
      omega
  intro i j a b ha hb hij
  have := step (j - i - 1) i a b ha
  rw [show i + (j - i - 1) + 1 = j by omega] at this
  exact this hb
theorem srt_take {L : List NodeS} (h : Srt L) (i : Nat) : Srt (L.take i) := fun a b x y hx hy hab => by
  rw [List.getElem?_take] at hx hy
  split at hx
  · split at hy
    · exact h a b x y hx hy hab
    · cases hy
  · cases hx
theorem idx_lt {L : List NodeS} {z : Int} : idx L z < (L.length : Int) ∧ -1 ≤ idx L z := by
  unfold idx
  split
  · rename_i i h
    have := (List.findIdx?_eq_some_iff_getElem.1 h).1
    omega
  · omega
set_option maxRecDepth 100000 in
set_option maxHeartbeats 4000000 in
theorem tcheck_ok (A : Option Addr) (n c : Nat) (L : List NodeS) (cur : Int) (w : World) (hA : Ng w A n L) (hnc : n ≤ c) (hT : Tabs w) (hM : MayT L cur) :
    Calls Tryd.prog 59 #[treeV (.slice A n c) cur] w fun r w' => r = .returned (.int .i64 0) ∧ Kept (fun _ => False) w w' := by
  have hl := hA.len
  obtain ⟨hge, hle, hok, hcu⟩ := hM
  rw [hl] at hge hle
  have hs := ok_srt hok
  have hk0 : Kept (fun _ => False) w (w.alloc (treeO (.slice A n c) cur)) := (Kept.refl _ w).alloc _
  have HA := Lib.hid (hA.kept hk0 (fun _ _ => id))
  have HT := Lib.hid (hT.kept hk0 id id)
  have hTB : (w.alloc (treeO (.slice A n c) cur)).heap[w.heap.size]? = some (treeO (.slice A n c) cur) := heap_alloc_new w _
  have HTB : Hid (∀ W, Kept (fun _ => False) (w.alloc (treeO (.slice A n c) cur)) W → W.cell? ⟨w.heap.size, 0, none⟩ = some (.slice A n c) ∧ W.cell? ⟨w.heap.size, 1, none⟩ = some (.int .i64 cur)) := fun W hk => ⟨cell_kept hk (by rw [cell_of_row _ _ _ _ _ _ hTB]; rfl) id, cell_kept hk (by rw [cell_of_row _ _ _ _ _ _ hTB]; rfl) id⟩
  have HK0 := Lib.hid hk0
  have HOK := Lib.hid hok
  have HS := Lib.hid hs
  have cF := fun W (hW : Ng W A n L) => nfind_any A n c L cur W hW (by omega) hs
  obtain ⟨z, hz⟩ : ∃ z, idx L cur = z := ⟨_, rfl⟩
  rw [hz] at cF hcu
  have HL := Lib.hid hl
  clear hA hT hk0 hTB hok hs hz hl
  go_enter Tryd.func59, Tryd.ntmps59
  go_upto_region 1 with fail
  simp only [treeO] at HA HT HTB HK0
  generalize w.alloc _ = w0 at *
  generalize w.heap.size = tb at *
  obtain ⟨t0, t1⟩ := HTB.out w0 (Kept.refl _ _)
  have b1 : ((n : Int) == 0) = false := by rw [beq_eq_false_iff_ne]; omega
  have b2 : decide ((64 : Int) < (n : Int)) = false := decide_eq_false (by omega)
  have b3 : decide (64 < n) = false := decide_eq_false (by omega)
  go_wp2_with fail
  clear t0 t1 b1 b2 b3
  go_loopw [18] (fun v wr => ∃ i : Nat, i ≤ n ∧ v = .int .i64 i ∧ Kept (fun _ => False) w0 wr) (fun v _ => n - (intOf v).toNat)
  case atStart => exact ⟨0, Nat.zero_le _, rfl, Kept.refl _ _⟩
  case round =>
    obtain ⟨i, hi, rfl, hkr⟩ := hrel
    have HK := Lib.hid hkr
    clear hkr
    by_cases hlt : i < n
    · obtain ⟨ad, e, rfl, he, h4⟩ := (HA.out.kept HK.out (fun _ _ => id)).at_ hlt
      have hoke := HOK.out i e he
      have hic : i ≤ c := by omega
      have hPre := (HA.out.kept HK.out (fun _ _ => id)).take (show i ≤ n by omega)
      have HPR := Lib.hid hPre
      have f0 := h4.c0
      have f1 := h4.c1
      have f2 := h4.c2
      have f3 := h4.c3
      have HN : Hid (∀ W, Kept (fun _ => False) (wr.alloc (nodeO e)) W → Nd4 W ⟨wr.heap.size, 0, none⟩ e) := fun W hk => nd4_new.kept hk id
      have hk1 : Kept (fun _ => False) wr (wr.alloc (nodeO e)) := (Kept.refl _ wr).alloc _
      have HK1 := Lib.hid (HK.out.trans hk1)
      have HPR1 := Lib.hid (hPre.kept hk1 (fun _ _ => id))
      have b1 : decide ((i : Int) < (n : Int)) = true := decide_eq_true (by omega)
      have b2 : decide (i < n) = true := decide_eq_true hlt
      have t1 : (0 : Int) ≤ (i : Int) := by omega
      have t2 : (i : Int) < (n : Int) := by omega
      clear h4 hPre hk1 he
      go_upto_region 6 with fail
      clear f0 f1 f2 f3 b1 b2
      simp only [nodeO] at HN HK1 HPR1
      generalize wr.alloc _ = w1 at *
      generalize wr.heap.size = nb at *
      have cP := placed_any (some ad) i c (L.take i) e w1.drew (HPR1.out.kept (Kept.refl (fun _ => False) w1).drew (fun _ _ => id)) (by omega) (srt_take HS.out i)
      rw [decide_eq_true hoke.1] at cP
      have hsz := mayB_size hoke.2.2.2
      have cC := fun W (h : Tabs W) => check_any e.tx W (by omega) h
      rw [if_pos hoke.2.2.2] at cC
      have hcut := fun u => run_ncut_h u (some ad) n c i (i : Int) rfl hic
      have q1 : decide (e.at_ < 0) = false := decide_eq_false (by have := hoke.2.1; omega)
      have q2 : decide ((4000 : Int) < e.at_) = false := decide_eq_false (by have := hoke.2.2.1; omega)
      have KF : Hid (∀ W, Kept (fun _ => False) w1 W → W.cell? ⟨tb, 0, none⟩ = some (.slice (some ad) n c) ∧ W.cell? ⟨nb, 0, none⟩ = some (.int .i64 e.sq) ∧ W.cell? ⟨nb, 1, none⟩ = some (.int .i64 e.pa) ∧ W.cell? ⟨nb, 2, none⟩ = some (.int .i64 e.at_) ∧ W.cell? ⟨nb, 3, none⟩ = some (.string e.tx)) := fun W hk => ⟨(HTB.out W (HK1.out.trans hk)).1, (HN.out W hk).cs⟩
      have KA := KF.out w1.drew (Kept.refl _ w1).drew
      obtain ⟨sq, pa, at_, tx⟩ := e
      simp only at cP cC q1 q2 KF KA hsz
      clear hoke
      go_region_held3 (fun (W : World) => W.cell? ⟨tb, 0, none⟩ = some (.slice (some ad) n c) ∧ W.cell? ⟨nb, 0, none⟩ = some (.int .i64 sq) ∧ W.cell? ⟨nb, 1, none⟩ = some (.int .i64 pa) ∧ W.cell? ⟨nb, 2, none⟩ = some (.int .i64 at_) ∧ W.cell? ⟨nb, 3, none⟩ = some (.string tx))
        (first | with_reducible exact KC | with_reducible exact KB | with_reducible exact KA)
        (first
          | (go_at_call 68; refine cP.mono ?_; clear cP; rintro r w3 ⟨rfl, hk3⟩; have HK3 := Lib.hid ((Kept.refl (fun _ => False) w1).drew.trans hk3); have KB := KF.out w3 HK3.out; clear hk3)
          | (go_at_call 48; refine (cC _ (HT.out.kept (HK1.out.trans HK3.out) id id)).mono ?_; clear cC; rintro r w4 ⟨rfl, hk4⟩; have HK4 := Lib.hid (HK3.out.trans hk4); have KC := KF.out w4 HK4.out; clear hk4))
      go_wp2_with fail
      go_roundw
      case rel => exact ⟨i + 1, by omega, by go_num, HK1.out.trans HK4.out⟩
      case measure => simp [intOf]; omega
    · obtain rfl : i = n := by omega
      have b1 : decide ((i : Int) < (i : Int)) = false := by simp
      have b2 : decide (i < i) = false := by simp
      obtain ⟨t0, t1⟩ := HTB.out wr HK.out
      have cF1 := cF wr (HA.out.kept HK.out (fun _ _ => id))
      have q1 : decide (z < 0) = false := decide_eq_false (by omega)
      clear cF
      go_wp2_with (go_at_call 62; refine cF1.mono ?_; rintro r w3 ⟨rfl, hk3⟩; have HK3 := Lib.hid (HK.out.trans hk3); clear hk3 cF1)
      go_ret
      exact ⟨rfl, HK0.out.trans HK3.out⟩
end Go.Proofs.YthbfmdnibijapaaDoor
namespace Go.Proofs.YthbfmdnibijapaaDoor
open Go Go.RowKit

theorem results_ctt {fn : Func} {p u x : Tmp} {ty : TypeId} (h : fn.results = #[.cell p ty, .tmp u, .tmp x]) (tmps : Array Value) (P : Program) (w : World) :
    (results fn tmps).run P w = ((asAddr (tmps.getD p undef)).run P w).andThen fun a w₁ => ((loadVar ty a).run P w₁).andThen fun v w₂ => .ok (.tuple #[v, tmps.getD u undef, tmps.getD x undef]) w₂ := by
  simp only [results, h]
  simp [Sem.run_bind, Result.andThen]
theorem results_cttt {fn : Func} {p u x y : Tmp} {ty : TypeId} (h : fn.results = #[.cell p ty, .tmp u, .tmp x, .tmp y]) (tmps : Array Value) (P : Program) (w : World) :
    (results fn tmps).run P w = ((asAddr (tmps.getD p undef)).run P w).andThen fun a w₁ => ((loadVar ty a).run P w₁).andThen fun v w₂ => .ok (.tuple #[v, tmps.getD u undef, tmps.getD x undef, tmps.getD y undef]) w₂ := by
  simp only [results, h]
  simp [Sem.run_bind, Result.andThen]
set_option maxRecDepth 100000 in
theorem res_t1 {fn : Func} {p u : Tmp} (h : fn.results = #[.cell p 24, .tmp u]) (tmps : Array Value) (w : World) (g : Nat) (v : Value) (cur : Int) (hv : v.oneCell' = true) (hp : tmps.getD p undef = .pointer (some ⟨g, 0, none⟩)) (hg : w.heap[g]? = some (treeO v cur)) :
    (results fn tmps).run Tryd.prog w = .ok (.tuple #[treeV v cur, tmps.getD u undef]) w := by
  rw [results_cell_tmp h, hp]
  simp [asAddr, Result.andThen, run_loadVar_row w g _ _ _ _ _ hg Tryd.underlying24 rfl (by kernel_rfl)]
set_option maxRecDepth 100000 in
theorem res_t3 {fn : Func} {p u x : Tmp} (h : fn.results = #[.cell p 24, .tmp u, .tmp x]) (tmps : Array Value) (w : World) (g : Nat) (v : Value) (cur : Int) (hv : v.oneCell' = true) (hp : tmps.getD p undef = .pointer (some ⟨g, 0, none⟩)) (hg : w.heap[g]? = some (treeO v cur)) :
    (results fn tmps).run Tryd.prog w = .ok (.tuple #[treeV v cur, tmps.getD u undef, tmps.getD x undef]) w := by
  rw [results_ctt h, hp]
  simp [asAddr, Result.andThen, run_loadVar_row w g _ _ _ _ _ hg Tryd.underlying24 rfl (by kernel_rfl)]
set_option maxRecDepth 100000 in
theorem res_t4 {fn : Func} {p u x y : Tmp} (h : fn.results = #[.cell p 24, .tmp u, .tmp x, .tmp y]) (tmps : Array Value) (w : World) (g : Nat) (v : Value) (cur : Int) (hv : v.oneCell' = true) (hp : tmps.getD p undef = .pointer (some ⟨g, 0, none⟩)) (hg : w.heap[g]? = some (treeO v cur)) :
    (results fn tmps).run Tryd.prog w = .ok (.tuple #[treeV v cur, tmps.getD u undef, tmps.getD x undef, tmps.getD y undef]) w := by
  rw [results_cttt h, hp]
  simp [asAddr, Result.andThen, run_loadVar_row w g _ _ _ _ _ hg Tryd.underlying24 rfl (by kernel_rfl)]
theorem On.keptS {S : Nat → Prop} {w w' : World} {B : Nat} {v : Value} {L : List NodeS} (h : On w B v L) (hk : Kept S w w') (hs : ∀ k, B ≤ k → ¬ S k) : On w' B v L := by
  refine ⟨h.1, ?_⟩
  rcases h.2 with hn | ⟨g, cap, cur, e, hb, hg, rest⟩
  · exact .inl hn
  · exact .inr ⟨g, cap, cur, e, hb, (hk.block g (heap_lt hg) (hs g hb)).trans hg, rest⟩
theorem On.mono {w : World} {B B' : Nat} {v : Value} {L : List NodeS} (h : On w B v L) (hb : B' ≤ B) : On w B' v L := by
  refine ⟨h.1, ?_⟩
  rcases h.2 with hn | ⟨g, cap, cur, e, hb', hg, rest⟩
  · exact .inl hn
  · exact .inr ⟨g, cap, cur, e, Nat.le_trans hb hb', hg, rest⟩
theorem On.slice {w : World} {B : Nat} {v : Value} {L : List NodeS} (h : On w B v L) : ∃ A c, v = .slice A L.length c ∧ Ng w A L.length L ∧ L.length ≤ c ∧ (A = none → L.length = 0 ∧ c = 0) := by
  obtain ⟨A, n, c, rfl, h1, h2, h3⟩ := h.sn
  obtain rfl : n = L.length := h1.len.symm
  exact ⟨A, c, rfl, h1, h2, h3⟩
set_option maxRecDepth 100000 in
theorem eql_nilU (w : World) (a : Addr) (n c : Nat) : (binOp .eql 22 (.slice (some a) n c) (.slice none 0 0)).run Tryd.prog w = .ok (.bool false) w := by
  have h : ∀ d : Nat, (Op.equalIn (d + 1) 22 (.slice (some a) n c) (.slice none 0 0)).run Tryd.prog w = .ok false w := fun d => by
    simp [Op.equalIn, run_underlying Tryd.underlying22]
  simp only [binOp]
  simp [Op.equal, Op.maxDepth, h 9999]
set_option maxRecDepth 100000 in
theorem eql_nilV (w : World) : (binOp .eql 22 (.slice none 0 0) (.slice none 0 0)).run Tryd.prog w = .ok (.bool true) w := by
  have h : ∀ d : Nat, (Op.equalIn (d + 1) 22 (.slice none 0 0) (.slice none 0 0)).run Tryd.prog w = .ok true w := fun d => by
    simp [Op.equalIn, run_underlying Tryd.underlying22]
  simp only [binOp]
  simp [Op.equal, Op.maxDepth, h 9999]
theorem add_offN (a : Addr) (k f : Nat) (hf : 0 < f) : (⟨(a.add k).block, (a.add k).off + f, none⟩ : Addr) = a.add (k + f) := by
  unfold Addr.add
  by_cases hk : k = 0
  · subst hk
    rw [if_pos rfl, if_neg (by omega), Nat.zero_add]
  · rw [if_neg hk, if_neg (by omega), Nat.add_assoc]
theorem ng_news {w : World} {ad : Addr} {n : Nat} {L : List NodeS} (h : Ng w (some ad) n L) : ∀ j u, (flatN L)[j]? = some u → w.cell? (ad.add j) = some u := by
  intro j u hj
  have hlt : j < L.length * 4 := by
    by_cases hl : j < L.length * 4
    · exact hl
    · rw [List.getElem?_eq_none (by rw [flatN_len]; omega)] at hj; cases hj
  have hk : j / 4 < L.length := by omega
  have hr : L[j / 4]? = some L[j / 4] := List.getElem?_eq_getElem hk
  obtain ⟨ad', he, h4⟩ := h.at' _ _ hr
  injection he with he
  subst he
  generalize L[j / 4] = r at *
  rcases (by omega : j % 4 = 0 ∨ j % 4 = 1 ∨ j % 4 = 2 ∨ j % 4 = 3) with hm | hm | hm | hm
  · have e : j / 4 * 4 + 0 = j := by omega
    have h0 := flatN_get hr (f := 0) rfl
    rw [e] at h0
    rw [h0] at hj
    cases hj
    have := h4.c0
    rwa [show j / 4 * 4 = j by omega] at this
  · have e : j / 4 * 4 + 1 = j := by omega
    have h0 := flatN_get hr (f := 1) rfl
    rw [e] at h0
    rw [h0] at hj
    cases hj
    have := h4.c1
    rwa [add_offN _ _ _ (by omega), e] at this
  · have e : j / 4 * 4 + 2 = j := by omega
    have h0 := flatN_get hr (f := 2) rfl
    rw [e] at h0
    rw [h0] at hj
    cases hj
    have := h4.c2
    rwa [add_offN _ _ _ (by omega), e] at this
  · have e : j / 4 * 4 + 3 = j := by omega
    have h0 := flatN_get hr (f := 3) rfl
    rw [e] at h0
    rw [h0] at hj
    cases hj
    have := h4.c3
    rwa [add_offN _ _ _ (by omega), e] at this
theorem flatN_one' {L : List NodeS} : ∀ u ∈ flatN L, u.oneCell' = true := by
  intro u hu
  obtain ⟨e, he, hu⟩ := List.mem_flatMap.1 hu
  exact nfour_one u hu
set_option maxRecDepth 100000 in
set_option maxHeartbeats 4000000 in
theorem nclone_any (A : Option Addr) (n c : Nat) (L : List NodeS) (w : World) (hA : Ng w A n L) (hC : A = none → n = 0 ∧ c = 0) (hn : n ≤ 100000) :
    Calls Tryd.prog 37 #[.slice A n c] w fun e w' => (∃ v, e = .returned v ∧ On w' w.heap.size v L) ∧ Kept (fun _ => False) w w' := by
  match A, hA, hC with
  | none, hA, hC =>
    obtain ⟨rfl, rfl⟩ := hC rfl
    have hL : L = [] := List.eq_nil_of_length_eq_zero hA.len
    subst hL
    have q0 : ∀ u, (binOp .eql 22 (.slice none 0 0) (.slice none 0 0)).run Tryd.prog u = .ok (.bool true) u := fun u => eql_nilV u
    clear hA hC
    go_enter Tryd.func37, Tryd.ntmps37
    go_wp2
    go_ret
    exact ⟨⟨_, rfl, on_nil _ _⟩, Kept.refl _ _⟩
  | some ad, hA, _ =>
    obtain ⟨i0, hi, hz0, hz1, hz2⟩ := info_parts info_node
    have hown : (w.alloc (.cells #[] 46)).ownsRow w.heap.size 46 4 (.slice (some ⟨w.heap.size, 0, none⟩) 0 0) 0 ([] : List Value) :=
      World.ownsRow_lit (base := w.heap.size) (e := 46) (size := 4) w #[] 0 (Nat.le_refl _) (by decide) rfl
    have hk : Kept (fun _ => False) w (w.alloc (.cells #[] 46)) := (Kept.refl _ w).alloc _
    have hz : w.heap.size ≤ (w.alloc (.cells #[] 46)).heap.size := hk.size
    have hA' := hA.kept hk (fun _ _ => id)
    have hl := hA.len
    have HK := Lib.hid hk
    have q0 : ∀ u, (binOp .eql 22 (.slice (some ad) n c) (.slice none 0 0)).run Tryd.prog u = .ok (.bool false) u := fun u => eql_nilU u _ _ _
    clear hA hk
    go_enter Tryd.func37, Tryd.ntmps37
    go_wp2_with (at_builtin; refine wpList_append_own _ rfl _ _ 22 rfl w.heap.size 46 i0 (.agg #[.int .i64 0, .int .i64 0, .int .i64 0, .string ⟨#[]⟩]) 4 40 Tryd.underlying22 hi hz0 hz1 hz2 rfl (by decide) _ _ _ rfl hown ad n c (flatN L) rfl (by rw [flatN_len, hl]) (ng_news hA') flatN_one' (by unfold maxLen; omega) (by omega) hz ?_)
    intro v' w1 hown' hgrow hnil
    have hK1 := Lib.hid (Kept.grew HK.out hgrow (fun q hq => (hown.lt q hq).1))
    have hO : On w1 w.heap.size v' L := by
      unfold On
      rw [hl]
      simpa using hown'
    have HO := Lib.hid hO
    clear hown' hgrow hnil hown hA' hz hO
    go_wp2
    go_ret
    exact ⟨⟨_, rfl, HO.out⟩, hK1.out⟩
theorem tree_facts {w : World} {g : Nat} {v : Value} {cur : Int} (h : w.heap[g]? = some (treeO v cur)) : w.cell? ⟨g, 0, none⟩ = some v ∧ w.cell? ⟨g, 1, none⟩ = some (.int .i64 cur) ∧ w.frozen? ⟨g, 0, none⟩ = false ∧ w.frozen? ⟨g, 1, none⟩ = false :=
  ⟨by rw [cell_of_row _ _ _ _ _ _ h]; rfl, by rw [cell_of_row _ _ _ _ _ _ h]; rfl, frozen_of h, frozen_of h⟩
theorem tree_set {w : World} {g : Nat} {v : Value} {cur : Int} (h : w.heap[g]? = some (treeO v cur)) (v' : Value) (cur' : Int) : ((w.setCell ⟨g, 0, none⟩ v').setCell ⟨g, 1, none⟩ (.int .i64 cur')).heap[g]? = some (treeO v' cur') :=
  (heap_set (heap_set h _) _).trans rfl
theorem Kept.tree {S : Nat → Prop} {w w1 : World} {g : Nat} (h : Kept S w w1) (hg : S g) (v0 v1 : Value) : Kept S w ((w1.setCell ⟨g, 0, none⟩ v0).setCell ⟨g, 1, none⟩ v1) :=
  (h.setCell (p := ⟨g, 0, none⟩) hg _).setCell (p := ⟨g, 1, none⟩) hg _
abbrev nilT : Obj := treeO (.slice none 0 0) 0
theorem heap_two1 (w : World) (o o' : Obj) : ((w.alloc o).alloc o').heap[w.heap.size]? = some o :=
  (Below.heap_alloc (w.alloc o) o' w.heap.size (by simp)).trans (heap_alloc_new w o)
theorem heap_two2 (w : World) (o o' : Obj) : ((w.alloc o).alloc o').heap[w.heap.size + 1]? = some o' := by
  have h := heap_alloc_new (w.alloc o) o'
  rwa [show (w.alloc o).heap.size = w.heap.size + 1 by simp] at h
set_option maxRecDepth 100000 in
set_option maxHeartbeats 4000000 in
theorem to_any (A : Option Addr) (n c : Nat) (L : List NodeS) (cur : Int) (i : Nat) (e : NodeS) (w : World) (hA : Ng w A n L) (hC : A = none → n = 0 ∧ c = 0) (hn : n ≤ 64) (he : L[i]? = some e) :
    Calls Tryd.prog 63 #[treeV (.slice A n c) cur, .int .i64 i] w fun r w' => (∃ v, r = .returned (.tuple #[treeV v e.sq, .string e.tx, .int .i64 e.at_]) ∧ On w' w.heap.size v L) ∧ Kept (fun _ => False) w w' := by
  have hin : i < n := by
    rcases Nat.lt_or_ge i L.length with h | h
    · rw [hA.len] at h; exact h
    · rw [List.getElem?_eq_none h] at he; cases he
  obtain ⟨ad, rfl, h4⟩ := hA.at' i e he
  have hk0 : Kept (fun _ => False) w ((w.alloc (treeO (.slice (some ad) n c) cur)).alloc nilT) := ((Kept.refl _ w).alloc _).alloc _
  have hX := heap_two1 w (treeO (.slice (some ad) n c) cur) nilT
  have hY := heap_two2 w (treeO (.slice (some ad) n c) cur) nilT
  have HA := Lib.hid (hA.kept hk0 (fun _ _ => id))
  have H4 := Lib.hid (h4.kept hk0 id)
  have HX := Lib.hid hX
  have HY := Lib.hid hY
  have HK0 := Lib.hid hk0
  obtain ⟨tb, htb⟩ : ∃ tb, w.heap.size = tb := ⟨_, rfl⟩
  have HTB := Lib.hid htb
  simp only [htb] at HX HY
  have HSZ : Hid (((w.alloc (treeO (.slice (some ad) n c) cur)).alloc nilT).heap.size = tb + 2) := by show _ = _; simp [htb]
  clear hA hk0 hX hY h4 he htb
  go_enter Tryd.func63, Tryd.ntmps63
  go_upto_region 1 with fail
  simp only [HTB.out]
  simp only [treeO, nilT] at HA H4 HX HY HK0 HSZ
  generalize (w.alloc _).alloc _ = w0 at *
  obtain ⟨t0, t1, _⟩ := tree_facts HX.out
  have f0 := H4.out.c0
  have f1 := H4.out.c1
  have f2 := H4.out.c2
  have f3 := H4.out.c3
  have b1 : (0 : Int) ≤ (i : Int) := by omega
  have b2 : (i : Int) < (n : Int) := by omega
  have HN : Hid (∀ W, Kept (fun _ => False) (w0.alloc (nodeO e)) W → Nd4 W ⟨w0.heap.size, 0, none⟩ e) := fun W hk => nd4_new.kept hk id
  have HK1 : Hid (Kept (fun _ => False) w0 (w0.alloc (nodeO e))) := (Kept.refl _ w0).alloc _
  go_upto_region 2 with fail
  clear f0 f1 f2 f3 b1 b2 t0 t1
  simp only [nodeO] at HN HK1
  obtain ⟨nb, hnb⟩ : ∃ nb, w0.heap.size = nb := ⟨_, rfl⟩
  have HNB := Lib.hid hnb
  simp only [hnb] at HN ⊢
  clear hnb
  generalize w0.alloc _ = w1 at *
  have KF : Hid (∀ W, Kept (fun q => q = tb + 1) w1 W → W.cell? ⟨tb, 0, none⟩ = some (.slice (some ad) n c) ∧ W.cell? ⟨nb, 0, none⟩ = some (.int .i64 e.sq) ∧ W.cell? ⟨nb, 2, none⟩ = some (.int .i64 e.at_) ∧ W.cell? ⟨nb, 3, none⟩ = some (.string e.tx)) := by
    show ∀ W, _
    intro W hk
    have h1 := (tree_facts ((HK1.out.block tb (heap_lt HX.out) id).trans HX.out)).1
    have h2 := (HN.out w1 (Kept.refl _ _)).kept hk (by have := HNB.out; have := HSZ.out; show ¬ nb = tb + 1; omega)
    exact ⟨cell_kept hk h1 (by show ¬ tb = tb + 1; omega), h2.cs.1, h2.cs.2.2.1, h2.cs.2.2.2⟩
  have KA := KF.out w1.drew (Kept.refl _ w1).drew
  have cC := nclone_any (some ad) n c L w1.drew ((HA.out.kept HK1.out (fun _ _ => id)).kept (Kept.refl (fun _ => False) w1).drew (fun _ _ => id)) (fun h => by cases h) (by omega)
  go_region_held3 (fun (W : World) => W.cell? ⟨tb, 0, none⟩ = some (.slice (some ad) n c) ∧ W.cell? ⟨nb, 0, none⟩ = some (.int .i64 e.sq) ∧ W.cell? ⟨nb, 2, none⟩ = some (.int .i64 e.at_) ∧ W.cell? ⟨nb, 3, none⟩ = some (.string e.tx))
    (first | with_reducible exact KB | with_reducible exact KA | with_reducible exact HKD.out _ _)
    (first
      | (go_at_call 37; refine cC.mono ?_; clear cC; rintro r w3 ⟨⟨v, rfl, hO⟩, hk3⟩; obtain ⟨A', c', rfl, _⟩ := hO.slice; have HK3 := Lib.hid ((Kept.refl (fun _ => False) w1).drew.trans hk3); have HO := Lib.hid hO; have KB := KF.out w3 HK3.out.any; have HKD := Lib.hid (fun v0 v1 => KF.out _ (Kept.tree (g := tb + 1) (S := fun q => q = tb + 1) HK3.out.any rfl v0 v1)); have HY3 := Lib.hid ((HK3.out.block (tb + 1) (Nat.lt_of_lt_of_le (heap_lt HY.out) HK1.out.size) id).trans ((HK1.out.block (tb + 1) (heap_lt HY.out) id).trans HY.out)); obtain ⟨r0, r1, r2, r3⟩ := tree_facts HY3.out; clear hk3 hO))
  all_goals
    go_wp2_with fail
    refine bodyPost_ret (res_t3 rfl _ _ (tb + 1) _ e.sq ?hv rfl (tree_set HY3.out _ e.sq)) rfl ⟨⟨_, rfl, ?ho⟩, ?hk⟩
    case hv => rfl
    case ho =>
      have h1 := HO.out.keptS (S := fun q => q = tb + 1) (Kept.tree (g := tb + 1) (S := fun q => q = tb + 1) (Kept.refl _ w3) rfl (.slice A' L.length c') (.int .i64 e.sq)) (fun k hk h => by have h2 := HK1.out.size; have h3 := HSZ.out; have h4 : w1.drew.heap.size = w1.heap.size := rfl; omega)
      exact h1.mono (by have h2 := HK1.out.size; have h3 := HSZ.out; have h4 : w1.drew.heap.size = w1.heap.size := rfl; have := HTB.out; omega)
    case hk => exact ((HK0.out.trans HK1.out).trans HK3.out).fresh (Kept.tree (g := tb + 1) (S := fun q => q = tb + 1) (Kept.refl _ w3) rfl _ _) (fun b hb h => by have := HTB.out; omega)
end Go.Proofs.YthbfmdnibijapaaDoor
