/-
  HISTORY: led to a node; links dropped.
-/
import Derived.Test.YthbfmdnibijapaaDoorHiC
import Derived.Test.YthbfmdnibijapaaDoorUnO
set_option linter.unusedVariables false
namespace Go.Proofs.YthbfmdnibijapaaDoor
open Go Go.RowKit

section
variable {most : Int} {ad : Addr} {n c : Nat} {L : List NodeS} {cur : Int} {mb hb : Nat} {s : ByteArray} {k : Int} {kv : List (Int × Value)}
set_option maxRecDepth 100000 in
theorem hto_err (v : Value) (cur' at' e : Int) (s' : ByteArray) (w : World) (he : e ≠ 0) :
    Calls Tryd.prog 45 #[.pointer (some ⟨hb, 0, none⟩), treeV v cur', .string s', .int .i64 at', .int .i64 e] w fun r w' => r = .returned (.tuple #[.string ⟨#[]⟩, .int .i64 0, .int .i64 e]) ∧ Kept (fun _ => False) w w' := by
  have b1 : (e == 0) = false := by rw [beq_eq_false_iff_ne]; exact he
  have b2 : (e != 0) = true := by simp; exact he
  have HK0 : Hid (Kept (fun _ => False) w (w.alloc (treeO v cur'))) := (Kept.refl _ w).alloc _
  simp only [treeO] at HK0
  clear he
  go_enter Tryd.func45, Tryd.ntmps45
  go_wp2_with fail
  exact bodyPost_ret (v := .tuple #[.string ⟨#[]⟩, .int .i64 0, .int .i64 e]) (by simp [results, Tryd.results45, go_sem]) rfl ⟨rfl, HK0.out⟩
set_option maxRecDepth 100000 in
set_option maxHeartbeats 4000000 in
theorem hto_ok (A' : Option Addr) (n' c' : Nat) (cur' at' : Int) (s' z : ByteArray) (Q : List ByteArray) (G : Int → Option (Int × PatS × PatS)) (U0 D0 : List PatS) (w : World) (h : Hq most ad n c L cur mb hb s k kv w) (hn : n ≤ 64) (hG : Good L kv G) (hW : Way G cur cur' U0 D0) (hU : U0.length ≤ 1000) (hD : D0.length ≤ 1) (hf : 0 ≤ cur) (ht : 0 ≤ cur')
    (hch : U0 ++ D0 = chain s Q) (hq : Q.length ≤ 1000) (hmay : ∀ t ∈ s :: Q, mayB t = true) (hz : (s :: Q).getLast? = some z) (hk : 0 ≤ k ∧ k ≤ 1000000) :
    Calls Tryd.prog 45 #[.pointer (some ⟨hb, 0, none⟩), treeV (.slice A' n' c') cur', .string s', .int .i64 at', .int .i64 0] w fun r w' => r = .returned (.tuple #[.string z, .int .i64 at', .int .i64 0]) ∧ w'.heap[hb]? = some (histO most (.slice A' n' c') cur' mb z (k + (Q.length : Nat))) ∧ Kept (fun q => q = hb) w w' := by
  have hlt := heap_lt h.box
  have hk0 : Kept (fun _ => False) w (w.alloc (treeO (.slice A' n' c') cur')) := (Kept.refl _ w).alloc _
  have HH := Lib.hid (h.kept hk0)
  have HT0 := Lib.hid (heap_alloc_new w (treeO (.slice A' n' c') cur'))
  have HK0 := Lib.hid hk0
  have cP := fun W (h : Hq most ad n c L cur mb hb s k kv W) => path_any G cur cur' U0 D0 W h hn hG hW hU hD hf ht
  rw [hch] at cP
  have HCP := Lib.hid cP
  have hcl := chain_len s Q
  have HCL := Lib.hid hcl
  have cA := fun A m cc W (hP : Ps W A m (chain s Q)) (hT : Tabs W) => happly_any A m cc s Q W hP hT (by have := hP.len; omega) hmay z hz
  have HCA := Lib.hid cA
  obtain ⟨N, hN⟩ : ∃ N, (chain s Q).length = N := ⟨_, rfl⟩
  have HN := Lib.hid hN
  have hNQ : Q.length = N := by rw [← hN, hcl]
  rw [hNQ]
  rw [hNQ] at hq
  obtain ⟨tb, htb⟩ : ∃ tb, w.heap.size = tb := ⟨_, rfl⟩
  have HTB := Lib.hid htb
  have hne : ¬ tb = hb := by omega
  rw [htb] at HT0
  clear h hk0 hG hW hch hmay hz cP cA htb hcl hN hNQ
  go_enter Tryd.func45, Tryd.ntmps45
  go_upto_region 3 with fail
  simp only [HTB.out]
  simp only [treeO] at HH HT0 HK0
  generalize w.alloc _ = w0 at *
  have KF : Hid (∀ W, Kept (fun _ => False) w0 W → W.cell? ⟨hb, 2, none⟩ = some (.int .i64 cur) ∧ W.cell? ⟨tb, 1, none⟩ = some (.int .i64 cur')) := by
    show ∀ W, _
    intro W hk
    exact ⟨(hist_facts (HH.out.kept hk).box).2.2.1, (tree_facts ((hk.block _ (heap_lt HT0.out) id).trans HT0.out)).2.1⟩
  have KA := KF.out w0.drew (Kept.refl _ w0).drew
  have HD := Lib.hid (HH.out.kept (Kept.refl (fun _ => False) w0).drew)
  go_region_held3 (fun (W : World) => W.cell? ⟨hb, 2, none⟩ = some (.int .i64 cur) ∧ W.cell? ⟨tb, 1, none⟩ = some (.int .i64 cur'))
    (first | with_reducible exact KB | with_reducible exact KA)
    (first | (go_at_call 39; refine (HCP.out _ HD.out).mono ?_; rintro r w2 ⟨⟨v, rfl, hO⟩, hk2⟩; obtain ⟨AP, cP, rfl, hP, hPc, hPn, hPb⟩ := hO.ps; have HK2 := Lib.hid ((Kept.refl (fun _ => False) w0).drew.trans hk2); have KB := KF.out w2 HK2.out; have HP := Lib.hid hP; clear hk2 hO hP hPn hPb))
  all_goals
    clear KA KB
    rw [HN.out] at HP hPc ⊢
    have HQ2 := Lib.hid (HH.out.kept HK2.out)
    have HT2 := Lib.hid ((HK2.out.block _ (heap_lt HT0.out) id).trans HT0.out)
    obtain ⟨_, _, _, _, f4, _⟩ := hist_facts HQ2.out.box
    have cA2 := HCA.out AP N cP w2 HP.out HQ2.out.tabs
    go_upto_region 5 with (go_at_call 38; refine cA2.mono ?_; rintro r w3 ⟨rfl, hk3⟩; have HQ3 := Lib.hid (HQ2.out.kept hk3); have HT3 := Lib.hid ((hk3.block _ (heap_lt HT2.out) id).trans HT2.out); have HK3 := Lib.hid (HK0.out.trans (HK2.out.trans hk3)); have k4 : w3.frozen? ⟨hb, 4, none⟩ = false := frozen_of HQ3.out.box; have e4 := (hist_facts HQ3.out.box).2.2.2.2.1; clear hk3 cA2)
    have HB4 : Hid ((w3.setCell ⟨hb, 4, none⟩ (.string z)).heap[hb]? = some (histO most (.slice (some ad) n c) cur mb z k)) := (heap_set HQ3.out.box _).trans rfl
    have HT4 : Hid ((w3.setCell ⟨hb, 4, none⟩ (.string z)).heap[tb]? = some (treeO (.slice A' n' c') cur')) := (heap_far hne _).trans HT3.out
    have HK4 : Hid (Kept (fun q => q = hb) w (w3.setCell ⟨hb, 4, none⟩ (.string z))) := (HK3.out.any (S := fun q => q = hb)).setCell (p := ⟨hb, 4, none⟩) rfl _
    generalize w3.setCell ⟨hb, 4, none⟩ (.string z) = w4 at *
    clear f4 k4 e4
    obtain ⟨t0, t1, _⟩ := tree_facts HT4.out
    have k1 : w4.frozen? ⟨hb, 1, none⟩ = false := frozen_of HB4.out
    have k2 : w4.frozen? ⟨hb, 2, none⟩ = false := frozen_of HB4.out
    obtain ⟨_, g1, g2, _, _, _⟩ := hist_facts HB4.out
    go_upto_region 6 with fail
    clear t0 t1 k1 k2 g1 g2
    have HB5 : Hid (((w4.setCell ⟨hb, 1, none⟩ (.slice A' n' c')).setCell ⟨hb, 2, none⟩ (.int .i64 cur')).heap[hb]? = some (histO most (.slice A' n' c') cur' mb z k)) := (heap_set (heap_set HB4.out _) _).trans rfl
    have HK5 : Hid (Kept (fun q => q = hb) w ((w4.setCell ⟨hb, 1, none⟩ (.slice A' n' c')).setCell ⟨hb, 2, none⟩ (.int .i64 cur'))) := ((HK4.out.setCell (p := ⟨hb, 1, none⟩) rfl _).setCell (p := ⟨hb, 2, none⟩) rfl _)
    generalize (w4.setCell ⟨hb, 1, none⟩ (.slice A' n' c')).setCell ⟨hb, 2, none⟩ (.int .i64 cur') = w5 at *
    obtain ⟨_, _, _, _, _, g5⟩ := hist_facts HB5.out
    have cD := add64_any ⟨hb, 5, none⟩ k (N : Int) w5 g5 (frozen_of HB5.out) (by omega) (by omega) (by omega) (by omega)
    clear g5
    have HB6 : Hid ((w5.setCell ⟨hb, 5, none⟩ (.int .i64 (k + (N : Int)))).heap[hb]? = some (histO most (.slice A' n' c') cur' mb z (k + (N : Int)))) := (heap_set HB5.out _).trans rfl
    have HK6 : Hid (Kept (fun q => q = hb) w (w5.setCell ⟨hb, 5, none⟩ (.int .i64 (k + (N : Int))))) := HK5.out.setCell (p := ⟨hb, 5, none⟩) rfl _
    go_upto_region 7 with (go_at_call 61; refine cD.mono ?_; rintro r w6 ⟨rfl, hw⟩; have hw2 := hw.symm; clear hw; subst hw2; clear cD)
    generalize w5.setCell ⟨hb, 5, none⟩ (.int .i64 (k + (N : Int))) = w6 at *
    obtain ⟨_, _, _, _, g4, _⟩ := hist_facts HB6.out
    go_wp2_with fail
    exact bodyPost_ret (v := .tuple #[.string z, .int .i64 at', .int .i64 0]) (by simp [results, Tryd.results45, go_sem]) rfl ⟨rfl, HB6.out, HK6.out⟩
end
end Go.Proofs.YthbfmdnibijapaaDoor
