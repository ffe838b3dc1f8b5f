/-
  HISTORY: links of nodes that went, dropped.
-/
import Derived.Test.YthbfmdnibijapaaDoorHiD
import Derived.Test.YthbfmdnibijapaaDoorUnK
set_option linter.unusedVariables false
namespace Go.Proofs.YthbfmdnibijapaaDoor
open Go Go.RowKit

theorem run_mkmap_hint (x : Int) (w : World) : (Instr.makeMap 64 (some (.int .i64 x))).run Tryd.prog w = .ok (.map (some w.heap.size)) (w.alloc (.map #[] 0)) := by
  simp [Instr.makeMap, run_underlying Tryd.underlying64, Result.andThen, asInt, newObj, Sem.run]
  rfl
theorem ng_drop {w : World} {ad : Addr} {n c : Nat} {L : List NodeS} (h : Ng w (some ad) n L) (hnc : n ≤ c) (hn : 1 ≤ n) : Ng w (if c = 1 then some ad else (some ad).map (·.add (1 * 4))) (n - 1) (L.drop 1) := by
  refine ⟨by rw [List.length_drop, h.len], fun k e he => ?_⟩
  rw [List.getElem?_drop] at he
  obtain ⟨hk, h4⟩ := h.nd he
  rw [if_neg (by omega)]
  refine ⟨ad.add (1 * 4), rfl, ?_⟩
  rw [Go.Deep.add_add, show 1 * 4 + k * 4 = (1 + k) * 4 by omega]
  exact h4
/-- Links of some nodes. -/
def keepL (kv : List (Int × Value)) (M : List NodeS) : List (Int × Value) := M.map (fun e => (e.sq, (kv.lookup e.sq).getD undef))
theorem lookup_none {l : List (Int × Value)} {z : Int} (h : ∀ p ∈ l, p.1 ≠ z) : l.lookup z = none := by
  induction l with
  | nil => rfl
  | cons p l ih =>
    have h1 := h p (List.mem_cons_self)
    rw [List.lookup_cons, show (z == p.1) = false by rw [beq_eq_false_iff_ne]; exact fun e => h1 e.symm]
    exact ih (fun q hq => h q (List.mem_cons_of_mem _ hq))
theorem keepL_has {kv : List (Int × Value)} {M : List NodeS} {e : NodeS} {v : Value} (he : e ∈ M) (hv : kv.lookup e.sq = some v) : (keepL kv M).lookup e.sq = some v := by
  induction M with
  | nil => cases he
  | cons x M ih =>
    unfold keepL
    rw [List.map_cons, List.lookup_cons]
    by_cases hx : e.sq = x.sq
    · rw [show (e.sq == x.sq) = true by simp [hx]]
      simp only
      rw [← hx, hv]
      rfl
    · rw [show (e.sq == x.sq) = false by rw [beq_eq_false_iff_ne]; exact hx]
      simp only
      rcases List.mem_cons.1 he with he | he
      · subst he; exact absurd rfl hx
      · exact ih he
section
variable {most : Int} {ad : Addr} {n c : Nat} {L : List NodeS} {cur : Int} {mb hb : Nat} {s : ByteArray} {k : Int} {kv : List (Int × Value)}
set_option maxRecDepth 100000 in
set_option maxHeartbeats 4000000 in
theorem forget_any (w : World) (h : Hq most ad n c L cur mb hb s k kv w) (hnc : n ≤ c) (hn : 1 ≤ n ∧ n ≤ 64) (hs : Srt L) (hkv : ∀ e ∈ L.drop 1, (∃ v, kv.lookup e.sq = some v) ∧ (Lit.int .i64 e.sq).wf = true) :
    Calls Tryd.prog 44 #[.pointer (some ⟨hb, 0, none⟩)] w fun r w' => r = .returned (.tuple #[]) ∧ (w'.heap[hb]? = some (histO most (.slice (some ad) n c) cur w.heap.size s k) ∧ MapI w' w.heap.size (keepL kv (L.drop 1))) ∧ Kept (fun q => q = hb) w w' := by
  have hlt := heap_lt h.box
  have hk0 : Kept (fun _ => False) w (w.alloc (.map #[] 0)) := (Kept.refl _ w).alloc _
  have HH := Lib.hid (h.kept hk0)
  have HM0 := Lib.hid (MapI.new w)
  have HK0 := Lib.hid hk0
  obtain ⟨_, f1, _, _, _, _⟩ := hist_facts h.box
  obtain ⟨_, g1, _, _, _, _⟩ := hist_facts HH.out.box
  have hmm := fun x W => run_mkmap_hint x W
  have hcut := fun W => run_ncut_l W (some ad) n c 1 1 rfl hn.1 hnc
  have HNG := Lib.hid (ng_drop HH.out.ng hnc hn.1)
  have HKV := Lib.hid hkv
  have HSR := Lib.hid hs
  obtain ⟨N, hN⟩ : ∃ N, n - 1 = N := ⟨_, rfl⟩
  have HNN := Lib.hid hN
  have hbN : N ≤ 64 := by omega
  rw [hN] at HNG hcut
  have hmb := h.mp
  obtain ⟨g, hg⟩ : ∃ g, w.heap.size = g := ⟨_, rfl⟩
  have HG := Lib.hid hg
  have hne : ¬ hb = g := by omega
  have hmbg : ¬ mb = g := by obtain ⟨es, cl, h1, _⟩ := hmb; have := heap_lt h1; omega
  have hAb : ∀ a, (if c = 1 then some ad else (some ad).map (·.add (1 * 4))) = some a → ¬ a.block = g := by
    intro a ha
    have hlt2 := ng_lt h.ng (by omega)
    split at ha
    · injection ha with ha; subst ha; omega
    · simp only [Option.map_some, Option.some.injEq] at ha
      rw [← ha, show (ad.add (1 * 4)).block = ad.block by unfold Addr.add; split <;> rfl]
      omega
  have HAB := Lib.hid hAb
  obtain ⟨A1, hA1⟩ : ∃ A1, (if c = 1 then some ad else (some ad).map (·.add (1 * 4))) = A1 := ⟨_, rfl⟩
  rw [hA1] at HNG hcut HAB
  rw [hg] at HM0
  rw [hg]
  obtain ⟨M, hM⟩ : ∃ M, L.drop 1 = M := ⟨_, rfl⟩
  have HMM := Lib.hid hM
  rw [hM] at HNG HKV ⊢
  clear h hk0 hkv hs hg hmb hAb hA1 hN
  go_enter Tryd.func44, Tryd.ntmps44
  go_upto_region 1 with fail
  clear f1 hmm
  simp only [HG.out]
  generalize w.alloc _ = w1 at *
  go_wp2_with fail
  clear hcut g1
  go_loopw [19] (fun v wr => ∃ j : Nat, j ≤ N ∧ v = .int .i64 j ∧ MapI wr g (keepL kv (M.take j)) ∧ Kept (fun q => q = g) w1 wr) (fun v _ => N - (intOf v).toNat)
  case atStart => exact ⟨0, Nat.zero_le _, rfl, HM0.out, Kept.refl _ _⟩
  case round =>
    obtain ⟨j, hjN, rfl, hmp, hkept⟩ := hrel
    have HMP := Lib.hid hmp
    have HK := Lib.hid hkept
    have HB := Lib.hid ((hkept.block hb (heap_lt HH.out.box) hne).trans HH.out.box)
    have HMK := Lib.hid (HH.out.mp.kept hkept hmbg)
    have HNR := Lib.hid (HNG.out.kept hkept HAB.out)
    clear hmp hkept
    by_cases hltj : j < N
    · obtain ⟨bd, e, rfl, he, h4⟩ := HNR.out.at_ hltj
      obtain ⟨⟨v, hv⟩, hwf⟩ := HKV.out e (List.mem_of_getElem? he)
      have hk2 : Kept (fun _ => False) wr (wr.alloc (nodeO e)).drew := ((Kept.refl _ wr).alloc _).drew
      have HN2 : Hid (Nd4 (wr.alloc (nodeO e)).drew ⟨wr.heap.size, 0, none⟩ e) := nd4_new.kept ((Kept.refl (fun _ => False) _).drew) id
      have hget := MapI.get Tryd.underlying64 Tryd.underlying3 (HMK.out.kept hk2 id) hwf hv
      have hnone : (keepL kv (M.take j)).lookup e.sq = none := by
        refine lookup_none (fun p hp => ?_)
        unfold keepL at hp
        obtain ⟨x, hx, rfl⟩ := List.mem_map.1 hp
        obtain ⟨i, hi, rfl⟩ := List.getElem_of_mem hx
        rw [List.length_take] at hi
        rw [List.getElem_take]
        have hi2 : i < M.length := by omega
        have h1 : L[1 + i]? = some M[i] := by rw [← List.getElem?_drop, HMM.out]; exact List.getElem?_eq_getElem hi2
        have h2 : L[1 + j]? = some e := by rw [← List.getElem?_drop, HMM.out]; exact he
        have h3 := HSR.out (1 + i) (1 + j) _ _ h1 h2 (by omega)
        show M[i].sq ≠ e.sq
        omega
      obtain ⟨w6, hrun, hM6, hk6⟩ := MapI.put Tryd.underlying64 Tryd.underlying3 (HMP.out.kept hk2 id) v hwf hnone
      have HM6 : Hid (MapI w6 g (keepL kv (M.take (j + 1)))) := by
        show MapI _ _ _
        rw [List.take_add_one, he]
        unfold keepL at hM6 ⊢
        rw [List.map_append]
        simpa [hv] using hM6
      have HK6 := Lib.hid ((HK.out.trans (hk2.any)).trans hk6)
      have h0 := (hist_facts ((hk2.block _ (heap_lt HB.out) id).trans HB.out)).2.2.2.1
      obtain ⟨n0, n1, n2, n3⟩ := HN2.out.cs
      obtain ⟨c0, c1, c2, c3⟩ := h4
      obtain ⟨e0, e1, e2, e3⟩ := e
      simp only at c0 c1 c2 c3 hget hrun n0 n1 n2 n3
      have b1 : decide (j < N) = true := decide_eq_true hltj
      have b2 : decide ((j : Int) < (N : Int)) = true := decide_eq_true (by omega)
      have t1 : (0 : Int) ≤ (j : Int) := by omega
      have t2 : (j : Int) < (N : Int) := by omega
      clear he hv hwf hnone hM6 hk6 hk2
      go_upto_region 4 with fail
      clear c0 c1 c2 c3
      go_region
      go_wp2_with fail
      go_roundw
      case rel => exact ⟨j + 1, by omega, by go_num, HM6.out, HK6.out⟩
      case measure => simp [intOf] <;> omega
    · obtain rfl : j = N := by omega
      have b1 : decide (j < j) = false := decide_eq_false (by omega)
      have b2 : decide ((j : Int) < (j : Int)) = false := decide_eq_false (by omega)
      have g3 := (hist_facts HB.out).2.2.2.1
      have k3 : wr.frozen? ⟨hb, 3, none⟩ = false := frozen_of HB.out
      go_wp2_with fail
      go_end0
      have hlen : M.length = j := by rw [← HMM.out, List.length_drop, HH.out.ng.len]; exact HNN.out
      refine ⟨rfl, ⟨(heap_set HB.out _).trans rfl, ?_⟩, ?_⟩
      · have h1 := HMP.out
        rw [List.take_of_length_le (by omega)] at h1
        exact h1.kept ((Kept.refl (fun q => q = hb) wr).setCell (p := ⟨hb, 3, none⟩) rfl _) (fun e => hne e.symm)
      · have h1 := HK0.out.fresh HK.out (fun q hq (e : q = g) => by have := HG.out; omega)
        exact (h1.any (S := fun q => q = hb)).setCell (p := ⟨hb, 3, none⟩) rfl _
end
end Go.Proofs.YthbfmdnibijapaaDoor
