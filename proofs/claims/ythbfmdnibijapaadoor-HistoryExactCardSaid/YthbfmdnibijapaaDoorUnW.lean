/-
  THE REFERENCE's Commit.
-/
import Derived.Test.YthbfmdnibijapaaDoorHz19
import Derived.Test.YthbfmdnibijapaaDoorHz17
set_option linter.unusedVariables false
namespace Go.Proofs.YthbfmdnibijapaaDoor
open Go Go.RowKit

theorem srt_pw {L : List NodeS} : Srt L ↔ L.Pairwise (fun a b => a.sq < b.sq) := by
  rw [List.pairwise_iff_getElem]
  constructor
  · intro h i j hi hj hij
    exact h i j _ _ (List.getElem?_eq_getElem hi) (List.getElem?_eq_getElem hj) hij
  · intro h i j a b ha hb hij
    have hi := get_lt ha
    have hj := get_lt hb
    rw [List.getElem?_eq_getElem hi] at ha
    rw [List.getElem?_eq_getElem hj] at hb
    injection ha with ha
    injection hb with hb
    subst ha hb
    exact h i j hi hj hij
theorem Ord.sub {L M : List NodeS} (h : Ord L) (hs : List.Sublist M L) : Ord M :=
  ⟨srt_pw.2 ((srt_pw.1 h.srt).sublist hs), fun e he => h.pa e (hs.subset he), fun e he => h.ge e (hs.subset he)⟩
theorem rp_sq (was : Int) (e : NodeS) : (rp was e).sq = e.sq := by unfold rp; split <;> rfl
theorem Ord.drp {r c : NodeS} {rest : List NodeS} (h : Ord (r :: c :: rest)) : Ord (drp (r :: c :: rest)) := by
  have hp := srt_pw.1 h.srt
  rw [List.pairwise_cons, List.pairwise_cons] at hp
  have hc0 := h.ge c (by simp)
  show Ord (({ c with sq := 0, pa := -1 } :: rest).map (rp c.sq))
  refine ⟨srt_pw.2 ?_, fun e he => ?_, fun e he => ?_⟩
  · rw [List.pairwise_map, List.pairwise_cons]
    refine ⟨fun x hx => ?_, hp.2.2.imp fun {a b} hab => by rw [rp_sq, rp_sq]; exact hab⟩
    rw [rp_sq, rp_sq]
    have := hp.2.1 x hx
    show (0 : Int) < x.sq
    omega
  · obtain ⟨x, hx, rfl⟩ := List.mem_map.1 he
    rw [rp_sq]
    rcases List.mem_cons.1 hx with rfl | hx
    · unfold rp
      rw [if_neg (show ¬ (-1 : Int) = c.sq by omega)]
      show (-1 : Int) < 0
      omega
    · have h1 := hp.2.1 x hx
      have h2 := h.pa x (by simp [hx])
      unfold rp
      split
      · show (0 : Int) < x.sq
        omega
      · exact h2
  · obtain ⟨x, hx, rfl⟩ := List.mem_map.1 he
    rw [rp_sq]
    rcases List.mem_cons.1 hx with rfl | hx
    · show (0 : Int) ≤ 0
      omega
    · exact h.ge x (by simp [hx])
theorem Ord.prn {L : List NodeS} {cur : Int} (h : Ord L) (hl : 2 ≤ L.length) : Ord (prn L cur).1 := by
  unfold Go.Proofs.YthbfmdnibijapaaDoor.prn
  split
  · match L, hl, h with
    | r :: c :: rest, _, h => exact h.drp
  · exact h.sub (List.eraseIdx_sublist ..)
theorem Ord.prI {p : List NodeS × Int} (h : Ord p.1) : ∀ {j : Nat}, j + 1 ≤ p.1.length → Ord (prI j p).1
  | 0, _ => h
  | j + 1, hj => by
    have ih := Ord.prI (p := p) h (j := j) (by omega)
    have hl := prI_len (p := p) (j := j) (by omega)
    exact ih.prn (by omega)
theorem Ord.snoc {L : List NodeS} {l e : NodeS} (h : Ord L) (hl : L.getLast? = some l) (h1 : l.sq < e.sq) (h2 : e.pa < e.sq) (h3 : 0 ≤ e.sq) : Ord (L ++ [e]) := by
  refine ⟨srt_pw.2 ?_, fun x hx => ?_, fun x hx => ?_⟩
  · rw [List.pairwise_append]
    refine ⟨srt_pw.1 h.srt, List.pairwise_singleton _ _, fun a ha b hb => ?_⟩
    rw [List.mem_singleton] at hb
    subst hb
    obtain ⟨i, hi, rfl⟩ := List.getElem_of_mem ha
    have hlk : L[L.length - 1]? = some l := by rw [List.getLast?_eq_getElem?] at hl; exact hl
    by_cases hil : i = L.length - 1
    · rw [← hil, List.getElem?_eq_getElem hi] at hlk
      injection hlk with hlk
      rw [hlk]
      exact h1
    · have := h.srt i (L.length - 1) _ l (List.getElem?_eq_getElem hi) hlk (by omega)
      omega
  · rcases List.mem_append.1 hx with hx | hx
    · exact h.pa x hx
    · rw [List.mem_singleton] at hx; subst hx; exact h2
  · rcases List.mem_append.1 hx with hx | hx
    · exact h.ge x hx
    · rw [List.mem_singleton] at hx; subst hx; exact h3
set_option maxRecDepth 100000 in
set_option maxHeartbeats 8000000 in
theorem rcommit_full (ad : Addr) (n c : Nat) (L : List NodeS) (cur : Int) (s : ByteArray) (at' most : Int) (l : NodeS) (w : World) (hA : Ng w (some ad) n L) (hn1 : 1 ≤ n) (hn : n ≤ 64) (hT : Tabs w) (hlast : L.getLast? = some l) (hsq : 1073741824 ≤ l.sq) :
    Calls Tryd.prog 16 #[treeV (.slice (some ad) n c) cur, .string s, .int .i64 at', .int .i64 most] w fun r w' => r = .returned (.tuple #[treeV (.slice none 0 0) 0, .int .i64 4]) ∧ Kept (fun _ => False) w w' := by
  have hl := hA.len
  have HK0 : Hid (Kept (fun _ => False) w ((w.alloc (treeO (.slice (some ad) n c) cur)).alloc nilT)) := ((Kept.refl _ w).alloc _).alloc _
  have HI0 := Lib.hid (tri_new (c := c) (cur := cur) hT hA hn1)
  obtain ⟨k, hk⟩ : ∃ k, n = k + 1 := ⟨n - 1, by omega⟩
  have hlk : L[k]? = some l := by rw [List.getLast?_eq_getElem?, show L.length - 1 = k by omega] at hlast; exact hlast
  obtain ⟨lsq, lpa, lat, ltx⟩ := l
  simp only at hsq
  obtain ⟨tb, htb⟩ : ∃ tb, w.heap.size = tb := ⟨_, rfl⟩
  have HTB := Lib.hid htb
  rw [htb] at HI0
  have HHL := Lib.hid hl
  have HLK := Lib.hid hlk
  have HTW := Lib.hid hT.two
  have HTT := Lib.hid hT
  have w1_ : IntKind.i64.wrap ((n : Int) - 1) = (k : Int) := by rw [show (n : Int) - 1 = (k : Int) by omega]; exact IntWalk.i64_in _ ⟨by omega, by omega⟩
  have b1 : (0 : Int) ≤ (k : Int) := by omega
  have b2 : (k : Int) < (n : Int) := by omega
  have q7 : decide ((1073741824 : Int) ≤ lsq) = true := decide_eq_true hsq
  clear htb hA hT hl hlast hlk hk
  go_enter Tryd.func16, Tryd.ntmps16
  go_upto_region 1 with fail
  simp only [HTB.out]
  simp only [treeO, nilT] at HI0 HK0
  generalize (w.alloc _).alloc _ = w0 at *
  obtain ⟨t0, t1⟩ := HI0.out.cells
  have cC := copytree_any (some ad) n c L cur w0 HI0.out.ng (by omega)
  go_upto_region 2 with (go_at_call 14; refine cC.mono ?_; rintro r w1 ⟨⟨v, rfl, hO⟩, hk1⟩; obtain ⟨g, cap, rfl, hBg, hog⟩ := hO.og' (n := n) HHL.out (by omega); have HK1 := Lib.hid (HK0.out.trans hk1); have HI1 := Lib.hid (HI0.out.kept hk1); have HG := Lib.hid hog; have HBG : Hid (w0.heap.size ≤ g) := hBg; clear hk1 cC hO hog hBg t0 t1; obtain ⟨t0, t1, t2, t3⟩ := tree_facts HI1.out.box)
  have HS0 : Hid (tb + 1 < w0.heap.size) := heap_lt HI0.out.res
  have hks : Kept (fun q => q = tb) w1 ((w1.setCell ⟨tb, 0, none⟩ (.slice (some ⟨g, 0, none⟩) n cap)).setCell ⟨tb, 1, none⟩ (.int .i64 cur)) := Kept.tree (g := tb) (S := fun q => q = tb) (Kept.refl (fun q => q = tb) w1) rfl _ _
  have hgt : g ≠ tb := by have := HBG.out; have := HS0.out; omega
  have HV2 : Hid (Tvr ((w1.setCell ⟨tb, 0, none⟩ (.slice (some ⟨g, 0, none⟩) n cap)).setCell ⟨tb, 1, none⟩ (.int .i64 cur)) tb g n cap L cur) := ⟨tree_set HI1.out.box _ _, HG.out.kept hks hgt, hgt⟩
  have HR2 := Lib.hid ((hks.block _ (heap_lt HI1.out.res) (by show ¬ tb + 1 = tb; omega)).trans HI1.out.res)
  have HK2 := Lib.hid (HK1.out.fresh hks (fun b hb h => by have := HTB.out; omega))
  have HGG : Hid (tb + 1 < g) := by have := HBG.out; have := HS0.out; show _ < _; omega
  clear hks
  go_upto_region 2 with fail
  clear t0 t1 t2 t3
  generalize (w1.setCell ⟨tb, 0, none⟩ (.slice (some ⟨g, 0, none⟩) n cap)).setCell ⟨tb, 1, none⟩ (.int .i64 cur) = w2 at *
  obtain ⟨t0, t1, t2, t3⟩ := tree_facts HV2.out.box
  have eA : (⟨g, 0, none⟩ : Addr).add (k * 4) = ⟨g, k * 4, none⟩ := by rw [addr_add, Nat.zero_add]
  have f0 := (HV2.out.og.ng.nd HLK.out).2.c0
  rw [eA] at f0
  simp only at f0
  obtain ⟨r0, r1, r2, r3⟩ := tree_facts HR2.out
  go_wp2_with fail
  refine bodyPost_ret (res_t1 rfl _ _ (tb + 1) (.slice none 0 0) 0 rfl rfl (tree_set HR2.out _ _)) rfl ⟨rfl, ?_⟩
  exact HK2.out.fresh (Kept.tree (g := tb + 1) (S := fun q => q = tb + 1) (Kept.refl (fun q => q = tb + 1) w2) rfl _ _) (fun b hb h => by have := HTB.out; omega)
set_option maxRecDepth 100000 in
set_option maxHeartbeats 8000000 in
theorem rcommit_any (ad : Addr) (n c : Nat) (L : List NodeS) (cur : Int) (s : ByteArray) (at' : Int) (most : Nat) (l : NodeS) (w : World) (hA : Ng w (some ad) n L) (hn1 : 1 ≤ n) (hn : n ≤ 64) (hT : Tabs w) (hm : 2 ≤ most ∧ most ≤ 64) (hlast : L.getLast? = some l) (hsq : 0 ≤ l.sq ∧ l.sq < 1073741824) (hO : Ord (L ++ [⟨l.sq + 1, cur, at', s⟩])) :
    Calls Tryd.prog 16 #[treeV (.slice (some ad) n c) cur, .string s, .int .i64 at', .int .i64 most] w fun r w' => (∃ v, r = .returned (.tuple #[treeV v (cmt L cur l.sq s at' most).2, .int .i64 0]) ∧ On w' w.heap.size v (cmt L cur l.sq s at' most).1) ∧ Kept (fun _ => False) w w' := by
  obtain ⟨i0, hi0, hz0, hz1, hz2⟩ := info_parts info_node
  obtain ⟨p0, hp0⟩ : ∃ p0 : List NodeS × Int, (L ++ [⟨l.sq + 1, cur, at', s⟩], l.sq + 1) = p0 := ⟨_, rfl⟩
  have hcm : cmt L cur l.sq s at' most = prI (n + 1 - most) p0 := by unfold cmt; rw [hA.len, hp0]
  obtain ⟨CM, hCM⟩ : ∃ CM, cmt L cur l.sq s at' most = CM := ⟨_, rfl⟩
  rw [hCM] at hcm ⊢
  have HCM := Lib.hid hcm
  have hOp : Ord p0.1 := by rw [← hp0]; exact hO
  have HOP := Lib.hid hOp
  have hp1 : p0.1 = L ++ [⟨l.sq + 1, cur, at', s⟩] := by rw [← hp0]
  have hp2 : p0.2 = l.sq + 1 := by rw [← hp0]
  have hpl : p0.1.length = n + 1 := by rw [hp1, List.length_append, hA.len]; rfl
  have HPL := Lib.hid hpl
  have HP1 := Lib.hid hp1
  have HP2 := Lib.hid hp2
  clear hO hcm hCM hp0 hOp hp1 hp2 hpl
  have hl := hA.len
  have HK0 : Hid (Kept (fun _ => False) w ((w.alloc (treeO (.slice (some ad) n c) cur)).alloc nilT)) := ((Kept.refl _ w).alloc _).alloc _
  have HI0 := Lib.hid (tri_new (c := c) (cur := cur) hT hA hn1)
  obtain ⟨k, hk⟩ : ∃ k, n = k + 1 := ⟨n - 1, by omega⟩
  have hlk : L[k]? = some l := by rw [List.getLast?_eq_getElem?, show L.length - 1 = k by omega] at hlast; exact hlast
  obtain ⟨lsq, lpa, lat, ltx⟩ := l
  simp only at hsq
  obtain ⟨tb, htb⟩ : ∃ tb, w.heap.size = tb := ⟨_, rfl⟩
  have HTB := Lib.hid htb
  rw [htb] at HI0
  have HHL := Lib.hid hl
  have HLK := Lib.hid hlk
  have HTW := Lib.hid hT.two
  have HTT := Lib.hid hT
  have w1_ : IntKind.i64.wrap ((n : Int) - 1) = (k : Int) := by rw [show (n : Int) - 1 = (k : Int) by omega]; exact IntWalk.i64_in _ ⟨by omega, by omega⟩
  have b1 : (0 : Int) ≤ (k : Int) := by omega
  have b2 : (k : Int) < (n : Int) := by omega
  simp only at HP1 HP2
  have q7 : decide ((1073741824 : Int) ≤ lsq) = false := decide_eq_false (by omega)
  have wq : IntKind.i64.wrap (lsq + 1) = lsq + 1 := IntWalk.i64_in _ ⟨by omega, by omega⟩
  clear htb hA hT hl hlast hlk hk
  go_enter Tryd.func16, Tryd.ntmps16
  go_upto_region 1 with fail
  simp only [HTB.out]
  simp only [treeO, nilT] at HI0 HK0
  generalize (w.alloc _).alloc _ = w0 at *
  obtain ⟨t0, t1⟩ := HI0.out.cells
  have cC := copytree_any (some ad) n c L cur w0 HI0.out.ng (by omega)
  go_upto_region 2 with (go_at_call 14; refine cC.mono ?_; rintro r w1 ⟨⟨v, rfl, hO⟩, hk1⟩; obtain ⟨g, cap, rfl, hBg, hog⟩ := hO.og' (n := n) HHL.out (by omega); have HK1 := Lib.hid (HK0.out.trans hk1); have HI1 := Lib.hid (HI0.out.kept hk1); have HG := Lib.hid hog; have HBG : Hid (w0.heap.size ≤ g) := hBg; clear hk1 cC hO hog hBg t0 t1; obtain ⟨t0, t1, t2, t3⟩ := tree_facts HI1.out.box)
  have HS0 : Hid (tb + 1 < w0.heap.size) := heap_lt HI0.out.res
  have hks : Kept (fun q => q = tb) w1 ((w1.setCell ⟨tb, 0, none⟩ (.slice (some ⟨g, 0, none⟩) n cap)).setCell ⟨tb, 1, none⟩ (.int .i64 cur)) := Kept.tree (g := tb) (S := fun q => q = tb) (Kept.refl (fun q => q = tb) w1) rfl _ _
  have hgt : g ≠ tb := by have := HBG.out; have := HS0.out; omega
  have HV2 : Hid (Tvr ((w1.setCell ⟨tb, 0, none⟩ (.slice (some ⟨g, 0, none⟩) n cap)).setCell ⟨tb, 1, none⟩ (.int .i64 cur)) tb g n cap L cur) := ⟨tree_set HI1.out.box _ _, HG.out.kept hks hgt, hgt⟩
  have HR2 := Lib.hid ((hks.block _ (heap_lt HI1.out.res) (by show ¬ tb + 1 = tb; omega)).trans HI1.out.res)
  have HK2 := Lib.hid (HK1.out.fresh hks (fun b hb h => by have := HTB.out; omega))
  have HGG : Hid (tb + 1 < g) := by have := HBG.out; have := HS0.out; show _ < _; omega
  clear hks
  go_upto_region 2 with fail
  clear t0 t1 t2 t3
  generalize (w1.setCell ⟨tb, 0, none⟩ (.slice (some ⟨g, 0, none⟩) n cap)).setCell ⟨tb, 1, none⟩ (.int .i64 cur) = w2 at *
  obtain ⟨t0, t1, t2, t3⟩ := tree_facts HV2.out.box
  have eA : (⟨g, 0, none⟩ : Addr).add (k * 4) = ⟨g, k * 4, none⟩ := by rw [addr_add, Nat.zero_add]
  have f0 := (HV2.out.og.ng.nd HLK.out).2.c0
  rw [eA] at f0
  simp only at f0
  obtain ⟨N, hN⟩ : ∃ N, n + 1 = N := ⟨_, rfl⟩
  rw [hN] at HCM HPL
  have HNN1 := Lib.hid hN
  have hown : w2.ownsRow (tb + 2) 46 4 (.slice (some ⟨g, 0, none⟩) n cap) n (flatN L) := by have h := HV2.out.og.on (B := tb + 2) (by have := HGG.out; omega); unfold On at h; rw [HHL.out] at h; exact h
  have HBS : Hid (tb + 2 ≤ w2.heap.size) := by have := heap_lt HR2.out; show _ ≤ _; omega
  go_upto_region 5 with fail
  clear w1_ b1 b2 f0 q7 hN
  go_wp2_with (at_builtin; refine wpList_append_own_at _ rfl (.tmp 29) (.tmp 37) 22 rfl (tb + 2) 46 i0 (.agg #[.int .i64 0, .int .i64 0, .int .i64 0, .string ⟨#[]⟩]) 4 40 Tryd.underlying22 hi0 hz0 hz1 hz2 rfl (by decide) _ _ _ rfl (World.ownsRow.alloc hown _) ⟨_, 0, none⟩ 1 1 (NodeS.vs ⟨lsq + 1, cur, at', s⟩) rfl rfl (nfour_cells (e := ⟨lsq + 1, cur, at', s⟩)) nfour_one (by unfold maxLen; omega) (by omega) (by have := HBS.out; simp <;> omega) ?_)
  intro v3 w3 hown3 hgrow3 _ _
  have hOn3 : On w3 (tb + 2) v3 (L ++ [⟨lsq + 1, cur, at', s⟩]) := On.snoc (by rw [HHL.out]; exact hown3)
  rw [← HP1.out] at hOn3
  obtain ⟨g3, cap3, rfl, hBg3, hog3⟩ := hOn3.og' (n := N) HPL.out (by have := HNN1.out; omega)
  have hkg : Kept (fun q => some q = some g) (w2.alloc (.cells #[.int .i64 (lsq + 1), .int .i64 cur, .int .i64 at', .string s] 46)) w3 := ⟨hgrow3.os, hgrow3.tape, hgrow3.output, hgrow3.size, fun q hq hn => hgrow3.block q hq (fun e => hn e)⟩
  have hka : Kept (fun _ => False) w2 (w2.alloc (.cells #[.int .i64 (lsq + 1), .int .i64 cur, .int .i64 at', .string s] 46)) := (Kept.refl _ w2).alloc _
  have HK3 := Lib.hid (Kept.grew (HK2.out.alloc (.cells #[.int .i64 (lsq + 1), .int .i64 cur, .int .i64 at', .string s] 46)) hgrow3 (fun q hq => by have h : some g = some q := hq; injection h with h; have := HGG.out; have := HTB.out; omega))
  have HB3 := Lib.hid ((hkg.block tb (Nat.lt_of_lt_of_le (heap_lt HV2.out.box) hka.size) (by show ¬ some tb = some g; intro h; injection h with h; exact hgt h.symm)).trans ((hka.block tb (heap_lt HV2.out.box) id).trans HV2.out.box))
  have HR3 := Lib.hid ((hkg.block (tb + 1) (Nat.lt_of_lt_of_le (heap_lt HR2.out) hka.size) (by show ¬ some (tb + 1) = some g; intro h; injection h with h; have := HGG.out; omega)).trans ((hka.block (tb + 1) (heap_lt HR2.out) id).trans HR2.out))
  have HG3 := Lib.hid hog3
  have HGG3 : Hid (tb + 2 ≤ g3) := hBg3
  clear hown3 hgrow3 hOn3 hBg3 hog3 hkg hka hown t0 t1 t2 t3
  obtain ⟨t0, t1, t2, t3⟩ := tree_facts HB3.out
  have hks : Kept (fun q => q = tb) w3 ((w3.setCell ⟨tb, 0, none⟩ (.slice (some ⟨g3, 0, none⟩) N cap3)).setCell ⟨tb, 1, none⟩ (.int .i64 (lsq + 1))) := Kept.tree (g := tb) (S := fun q => q = tb) (Kept.refl (fun q => q = tb) w3) rfl _ _
  have hgt3 : g3 ≠ tb := by have := HGG3.out; omega
  have HV4 : Hid (Tvr ((w3.setCell ⟨tb, 0, none⟩ (.slice (some ⟨g3, 0, none⟩) N cap3)).setCell ⟨tb, 1, none⟩ (.int .i64 (lsq + 1))) tb g3 N cap3 p0.1 p0.2) := ⟨by rw [HP2.out]; exact tree_set HB3.out _ _, HG3.out.kept hks hgt3, hgt3⟩
  have HR4 := Lib.hid ((hks.block _ (heap_lt HR3.out) (by show ¬ tb + 1 = tb; omega)).trans HR3.out)
  have HK4 := Lib.hid (HK3.out.fresh hks (fun b hb h => by have := HTB.out; omega))
  clear hks
  go_upto_region 7 with fail
  clear t0 t1 t2 t3 wq
  generalize (w3.setCell ⟨tb, 0, none⟩ (.slice (some ⟨g3, 0, none⟩) N cap3)).setCell ⟨tb, 1, none⟩ (.int .i64 (lsq + 1)) = w4 at *
  obtain ⟨NN, hNN⟩ : ∃ NN, N - most = NN := ⟨_, rfl⟩
  rw [hNN] at HCM
  have HNN := Lib.hid hNN
  have hmax : N ≤ 65 := by have := HNN1.out; omega
  clear hNN
  go_loopw [45] (fun _ wr => ∃ j g cap : Nat, j ≤ NN ∧ Tvr wr tb g (N - j) cap (prI j p0).1 (prI j p0).2 ∧ tb + 2 ≤ g ∧ wr.heap[tb + 1]? = some nilT ∧ Kept (fun _ => False) w wr) (fun _ wr => sliceLen (wr.cell? ⟨tb, 0, none⟩))
  case atStart => exact ⟨0, g3, cap3, Nat.zero_le _, HV4.out, HGG3.out, HR4.out, HK4.out⟩
  case round =>
    obtain ⟨j, g5, cap5, hj, hv, hg5, hr5, hkr⟩ := hrel
    have HV := Lib.hid hv
    have HKR := Lib.hid hkr
    have HRR := Lib.hid hr5
    have HG5 := Lib.hid hg5
    have HTR := Lib.hid (HTT.out.kept hkr id id)
    obtain ⟨t0, t1, t2, t3⟩ := tree_facts hv.box
    by_cases hlt : j < NN
    · have hnj : most < N - j := by have := HNN.out; omega
      obtain ⟨M, hM⟩ : ∃ M, N - j = M := ⟨_, rfl⟩
      have hOj := HOP.out.prI (j := j) (by have := HPL.out; omega)
      have hLj := prI_len (p := p0) (j := j) (by have := HPL.out; omega)
      rw [HPL.out] at hLj
      rw [hM] at hnj t0 hv HV
      have hM1 : N - (j + 1) = M - 1 := by omega
      have hstep : prI (j + 1) p0 = prn (prI j p0).1 (prI j p0).2 := rfl
      obtain ⟨⟨CL, CC⟩, hCL⟩ : ∃ q, prI j p0 = q := ⟨_, rfl⟩
      rw [hCL] at hOj hLj hv HV t1 hstep
      simp only at hOj hLj hv HV t1 hstep
      have hCM : CL.length = M := by omega
      have HCL := Lib.hid hCM
      have HST := Lib.hid hstep
      have HM1 := Lib.hid hM1
      have HOJ := Lib.hid hOj
      have b1 : decide ((most : Int) < (M : Int)) = true := decide_eq_true (by omega)
      have b2 : decide (most < M) = true := decide_eq_true hnj
      have cL := rleaf_any ⟨g5, 0, none⟩ M cap5 CL CC wr hv.og.ng (by omega) (by omega) HTR.out hOj
      have HT0 : Hid (sliceLen (wr.cell? ⟨tb, 0, none⟩) = M) := by show _ = _; rw [t0]; rfl
      have hM3 : 3 ≤ M ∧ M ≤ 65 := by omega
      obtain ⟨R, hR⟩ : ∃ R, elf CL CC = R := ⟨_, rfl⟩
      have hlt2 := elf_lt (L := CL) (cur := CC) (by omega)
      unfold elr at cL
      rw [hR] at cL hlt2
      have HRR2 := Lib.hid hR
      clear hv hkr hr5 hg5 hM hM1 hnj hOj hLj hCL hCM hstep hR
      by_cases h0 : R = 0
      · rw [if_pos h0] at cL
        have hpr : Hid (prI (j + 1) p0 = (drp CL, drc CC CL)) := by show _ = _; rw [HST.out]; unfold prn; rw [HRR2.out, if_pos h0]
        obtain ⟨rt, ch, rest, hCLe⟩ : ∃ rt ch rest, CL = rt :: ch :: rest := by
          match CL, HCL.out with
          | [], hl => simp at hl; omega
          | [r], hl => simp at hl; omega
          | r :: c :: rest, _ => exact ⟨r, c, rest, rfl⟩
        obtain ⟨was, hwas⟩ : ∃ was, ch.sq = was := ⟨_, rfl⟩
        have HW0 : Hid (0 ≤ was) := by have := HOJ.out.ge ch (by rw [hCLe]; simp); show _ ≤ _; omega
        obtain ⟨M1, hM1⟩ : ∃ M1, M - 1 = M1 := ⟨_, rfl⟩
        have HM2 : Hid (N - (j + 1) = M1) := by show _ = _; rw [← hM1]; exact HM1.out
        have HM12 : Hid (M1 + 1 = M) := by show _ = _; omega
        have hrl : rest.length + 1 = M1 := by have := HCL.out; rw [hCLe] at this; simp at this; omega
        have hdr : drp CL = (({ ch with sq := 0, pa := -1 } : NodeS) :: rest).map (rp was) := by rw [hCLe, ← hwas]; rfl
        have hdc : drc CC CL = if CC = was then 0 else CC := by rw [hCLe, ← hwas]; rfl
        rw [hdr, hdc] at hpr
        have HW1 : Hid (ch.sq = was) := hwas
        have HCE : Hid (CL = rt :: ch :: rest) := hCLe
        have HRL := Lib.hid hrl
        have w1a : (1 : Int) < (M : Int) := by omega
        clear hdr hdc hwas hCLe hM1 hrl h0 HRR2
        go_upto_region 11 with (go_at_call 35; refine cL.mono ?_; rintro r w6 ⟨rfl, hk6⟩; have HV6 := Lib.hid (HV.out.kept hk6 id id); have HR6 := Lib.hid ((hk6.block _ (heap_lt HRR.out) id).trans HRR.out); have HK6 := Lib.hid (HKR.out.trans hk6); clear hk6 cL t0 t1 t2 t3)
        obtain ⟨t0, t1, t2, t3⟩ := tree_facts HV6.out.box
        have f0 := (HV6.out.og.ng.nd (i := 1) (e := ch) (by rw [HCE.out]; rfl)).2.c0
        rw [show (⟨g5, 0, none⟩ : Addr).add (1 * 4) = ⟨g5, 4, none⟩ from rfl, HW1.out] at f0
        have hcL := fun u => run_ncut_l u (some ⟨g5, 0, none⟩) M cap5 1 (1 : Int) rfl (by omega) HV6.out.og.le
        have hle6 := HV6.out.og.le
        have hng1 : Ng w6 (some ⟨g5, 4, none⟩) M1 (ch :: rest) := by
          have h := HV6.out.og.ng.drop HV6.out.og.le 1
          rw [if_neg (by omega), HCE.out] at h
          rw [show M - 1 = M1 by have := HM12.out; omega] at h
          exact h
        rw [if_neg (show ¬ cap5 = 1 by omega), Option.map_some, show (⟨g5, 0, none⟩ : Addr).add (1 * 4) = ⟨g5, 4, none⟩ from rfl, show M - 1 = M1 by have := HM12.out; omega] at hcL
        have cY := copynodes_any (some ⟨g5, 4, none⟩) M1 (cap5 - 1) (ch :: rest) w6 hng1 (by have := HM12.out; omega)
        clear hng1 hle6
        go_upto_region 13 with (go_at_call 34; refine cY.mono ?_; rintro r w7 ⟨⟨v7, rfl, hO7⟩, hk7⟩; obtain ⟨g7, cap7, rfl, hBg7, hog7⟩ := hO7.og' (n := M1) HRL.out (by have := HRL.out; omega); have HK7 := Lib.hid (HK6.out.trans hk7); have HK67 := Lib.hid hk7; have HO7 := Lib.hid hog7; have HB7 : Hid (w6.heap.size ≤ g7) := hBg7; clear hk7 cY hO7 hog7 hBg7 t0 t1 t2 t3 f0; obtain ⟨t0, t1, t2, t3⟩ := tree_facts ((HK67.out.block _ (heap_lt HV6.out.box) id).trans HV6.out.box))
        have hT7 : Hid (tb + 2 ≤ g7) := by have := HB7.out; have := heap_lt HR6.out; show _ ≤ _; omega
        have hgt7 : g7 ≠ tb := by have := hT7.out; omega
        have hks : Kept (fun q => q = tb) w7 (w7.setCell ⟨tb, 0, none⟩ (.slice (some ⟨g7, 0, none⟩) M1 cap7)) := (Kept.refl (fun q => q = tb) w7).setCell (p := ⟨tb, 0, none⟩) rfl _
        have HV8 : Hid (Tvr (w7.setCell ⟨tb, 0, none⟩ (.slice (some ⟨g7, 0, none⟩) M1 cap7)) tb g7 M1 cap7 (ch :: rest) CC) := ⟨heap_set ((HK67.out.block _ (heap_lt HV6.out.box) id).trans HV6.out.box) _, HO7.out.kept hks hgt7, hgt7⟩
        have HR8 := Lib.hid ((hks.block _ (Nat.lt_of_lt_of_le (heap_lt HR6.out) HK67.out.size) (by show ¬ tb + 1 = tb; omega)).trans ((HK67.out.block _ (heap_lt HR6.out) id).trans HR6.out))
        have HK8 := Lib.hid (HK7.out.fresh hks (fun b hb h => by have := HTB.out; omega))
        clear hks t0 t1 t2 t3 hcL
        generalize w7.setCell ⟨tb, 0, none⟩ (.slice (some ⟨g7, 0, none⟩) M1 cap7) = w8 at *
        have hne : g7 ≠ tb := hgt7
        obtain ⟨t0, t1, t2, t3⟩ := tree_facts HV8.out.box
        have hd := (HV8.out.og.ng.nd (i := 0) rfl).2
        rw [Nat.zero_mul] at hd
        have f0 : w8.cell? ⟨g7, 0, none⟩ = some (.int .i64 ch.sq) := by have := hd.c0; rwa [show (⟨g7, 0, none⟩ : Addr).add 0 = ⟨g7, 0, none⟩ from rfl] at this
        have f1 : w8.cell? ⟨g7, 1, none⟩ = some (.int .i64 ch.pa) := by have := hd.c1; rwa [show (⟨g7, 0, none⟩ : Addr).add 0 = ⟨g7, 0, none⟩ from rfl] at this
        clear hd
        have b3 : (0 : Int) < (M1 : Int) := by have := HRL.out; omega
        have hM10 : 0 < M1 := by have := HRL.out; omega
        have hM19 : M1 ≤ 65 := by have := HM12.out; omega
        have HXB : Hid (∀ W, Kept (fun q => q = g7) w8 W → W.cell? ⟨tb, 0, none⟩ = some (.slice (some ⟨g7, 0, none⟩) M1 cap7)) := fun W hk => cell_kept hk t0 (fun e => hne e.symm)
        have HAB : ∀ u v, Kept (fun q => q = g7) w8 ((w8.setCell ⟨g7, 0, none⟩ u).setCell ⟨g7, 1, none⟩ v).drew := fun u v => (((Kept.refl (fun q => q = g7) w8).setCell (p := ⟨g7, 0, none⟩) rfl _).setCell (p := ⟨g7, 1, none⟩) rfl _).drew
        have HBA : ∀ u v, Kept (fun q => q = g7) w8 ((w8.setCell ⟨g7, 1, none⟩ u).setCell ⟨g7, 0, none⟩ v).drew := fun u v => (((Kept.refl (fun q => q = g7) w8).setCell (p := ⟨g7, 1, none⟩) rfl _).setCell (p := ⟨g7, 0, none⟩) rfl _).drew
        have K0 := HXB.out w8.drew (Kept.refl (fun q => q = g7) w8).drew
        have KA := Lib.hid (fun u => HXB.out (w8.setCell ⟨g7, 0, none⟩ u).drew ((Kept.refl (fun q => q = g7) w8).setCell (p := ⟨g7, 0, none⟩) rfl u).drew)
        have KB := Lib.hid (fun u => HXB.out (w8.setCell ⟨g7, 1, none⟩ u).drew ((Kept.refl (fun q => q = g7) w8).setCell (p := ⟨g7, 1, none⟩) rfl u).drew)
        have KAB := Lib.hid (fun u v => HXB.out _ (HAB u v))
        have KBA := Lib.hid (fun u v => HXB.out _ (HBA u v))
        have z0 := HV8.out.og.free 0
        have z1 := HV8.out.og.free 1
        have HHA := Lib.hid HAB
        have HHB := Lib.hid HBA
        clear HAB HBA t1 t2 t3
        go_region_held3 (fun (W : World) => W.cell? ⟨tb, 0, none⟩ = some (.slice (some ⟨g7, 0, none⟩) M1 cap7))
          (first | with_reducible exact KAB.out _ _ | with_reducible exact KBA.out _ _ | with_reducible exact KA.out _ | with_reducible exact KB.out _ | with_reducible exact K0) (fail)
        have HV9 : Hid (Tvr ((w8.setCell ⟨g7, 0, none⟩ (.int .i64 0)).setCell ⟨g7, 1, none⟩ (.int .i64 (-1))).drew tb g7 M1 cap7 ({ ch with sq := 0, pa := -1 } :: rest) CC) := by
          have h1 := HV8.out.set (i := 0) (f := 0) (e := ch) (e' := { ch with sq := 0 }) (u := .int .i64 0) rfl (by omega) rfl
          have h2 := h1.set (i := 0) (f := 1) (e := { ch with sq := 0 }) (e' := { ch with sq := 0, pa := -1 }) (u := .int .i64 (-1)) rfl (by omega) rfl
          exact h2.kept (Kept.refl (fun _ => False) _).drew id id
        have HK9 : Hid (Kept (fun q => q = g7 ∨ q = tb) w8 ((w8.setCell ⟨g7, 0, none⟩ (.int .i64 0)).setCell ⟨g7, 1, none⟩ (.int .i64 (-1))).drew) := (((Kept.refl (fun q => q = g7 ∨ q = tb) w8).setCell (p := ⟨g7, 0, none⟩) (.inl rfl) _).setCell (p := ⟨g7, 1, none⟩) (.inl rfl) _).drew
        clear K0 KA KB KAB KBA f0 f1 z0 z1 HHA HHB HXB t0
        generalize ((w8.setCell ⟨g7, 0, none⟩ (.int .i64 0)).setCell ⟨g7, 1, none⟩ (.int .i64 (-1))).drew = w9 at *
        obtain ⟨ML, hML⟩ : ∃ ML : List NodeS, { ch with sq := 0, pa := -1 } :: rest = ML := ⟨_, rfl⟩
        have hst1 : (ML.take 1).map (rp was) ++ ML.drop 1 = ML := by
          rw [← hML]
          have h0 : rp was ({ ch with sq := 0, pa := -1 } : NodeS) = { ch with sq := 0, pa := -1 } := by unfold rp; rw [if_neg (by have := HW0.out; show ¬ (-1 : Int) = was; omega)]
          show rp was ({ ch with sq := 0, pa := -1 } : NodeS) :: rest = _
          rw [h0]
        rw [hML] at HV9 hpr
        have HS1 := Lib.hid hst1
        have HML : Hid (ML.length = M1) := HV9.out.og.len
        have HFIN : Hid (∀ W CD, Tvr W tb g7 M1 cap7 (ML.map (rp was)) CD → (CD = if CC = was then 0 else CC) → Kept (fun q => q = g7 ∨ q = tb) w8 W → ∃ (j2 g cap : Nat), j2 ≤ NN ∧ Tvr W tb g (N - j2) cap (prI j2 p0).1 (prI j2 p0).2 ∧ tb + 2 ≤ g ∧ W.heap[tb + 1]? = some nilT ∧ Kept (fun _ => False) w W) := fun W CD hv hcd hk => by
          refine ⟨j + 1, g7, cap7, by omega, ?_, hT7.out, (hk.block _ (heap_lt HR8.out) (by have := hT7.out; show ¬ (tb + 1 = g7 ∨ tb + 1 = tb); omega)).trans HR8.out, HK8.out.fresh hk (fun b hb h => by have := HTB.out; have := hT7.out; omega)⟩
          rw [hpr.out, HM2.out, ← hcd]
          exact hv
        have HMS : Hid (∀ W CD, Tvr W tb g7 M1 cap7 (ML.map (rp was)) CD → sliceLen (W.cell? ⟨tb, 0, none⟩) < M) := fun W CD hv => by
          rw [(tree_facts hv.box).1]
          show M1 < M
          have := HM12.out
          omega
        clear hML hst1 hne
        obtain ⟨t0, t1, t2, t3⟩ := tree_facts HV9.out.box
        go_upto_region 15 with fail
        clear t0 t1 t2 t3
        go_loopw [13] (fun v wq => ∃ i : Nat, 1 ≤ i ∧ i ≤ M1 ∧ v = .int .i64 i ∧ Tvr wq tb g7 M1 cap7 ((ML.take i).map (rp was) ++ ML.drop i) CC ∧ Kept (fun q => q = g7 ∨ q = tb) w8 wq) (fun v _ => M1 - (intOf v).toNat)
        case atStart => exact ⟨1, by omega, by have := HRL.out; omega, rfl, by rw [HS1.out]; exact HV9.out, HK9.out⟩
        case round =>
          obtain ⟨i, hi1, hi, rfl, hv, hkr⟩ := hrel
          have HV := Lib.hid hv
          have HK := Lib.hid hkr
          clear hkr
          obtain ⟨t0, t1, t2, t3⟩ := tree_facts hv.box
          by_cases hlt : i < M1
          · obtain ⟨e, he⟩ : ∃ e, ML[i]? = some e := ⟨_, List.getElem?_eq_getElem (by rw [HML.out]; exact hlt)⟩
            have hmg := mid_get (was := was) he
            have hms := mid_map (was := was) he
            have hd := (hv.og.ng.nd hmg).2
            have f1 := hd.c1
            have z1 := hv.og.free (i * 4 + 1)
            have b5 : decide (i < M1) = true := decide_eq_true hlt
            have b6 : decide ((i : Int) < (M1 : Int)) = true := decide_eq_true (by omega)
            have b7 : (0 : Int) ≤ (i : Int) := by omega
            have b8 : (i : Int) < (M1 : Int) := by omega
            have eA2 : (⟨g7, 0, none⟩ : Addr).add (i * 4) = ⟨g7, i * 4, none⟩ := by rw [addr_add, Nat.zero_add]
            rw [eA2] at f1
            have HMG := Lib.hid hmg
            have HMS2 := Lib.hid hms
            clear hd hv he hmg hms
            by_cases hp : e.pa = was
            · have hpe : (e.pa == was) = true := by simp [hp]
              have HST2 : Hid (Tvr (wr.setCell ⟨g7, i * 4 + 1, none⟩ (.int .i64 0)) tb g7 M1 cap7 ((ML.take (i + 1)).map (rp was) ++ ML.drop (i + 1)) CC) := by
                have h := HV.out.set (f := 1) (e' := rp was e) (u := .int .i64 0) HMG.out (by omega) (by unfold rp; rw [if_pos hp]; rfl)
                rw [HMS2.out] at h
                exact h
              have HKT : Hid (Kept (fun q => q = g7 ∨ q = tb) w8 (wr.setCell ⟨g7, i * 4 + 1, none⟩ (.int .i64 0))) := HK.out.setCell (p := ⟨g7, i * 4 + 1, none⟩) (.inl rfl) _
              clear hp
              go_wp2_with fail
              go_roundw
              case rel => exact ⟨i + 1, by omega, by omega, by go_num, HST2.out, HKT.out⟩
              case measure => simp [intOf]; omega
            · have hpe : (e.pa == was) = false := by rw [beq_eq_false_iff_ne]; exact hp
              have HST2 : Hid (Tvr wr tb g7 M1 cap7 ((ML.take (i + 1)).map (rp was) ++ ML.drop (i + 1)) CC) := by
                have h := HMS2.out
                have h2 : rp was e = e := by unfold rp; rw [if_neg hp]
                have h3 := set_same HMG.out
                rw [h2, h3] at h
                rw [← h]
                exact HV.out
              clear hp
              go_wp2_with fail
              go_roundw
              case rel => exact ⟨i + 1, by omega, by omega, by go_num, HST2.out, HK.out⟩
              case measure => simp [intOf]; omega
          · obtain rfl : i = M1 := by omega
            have b5 : decide ((i : Int) < (i : Int)) = false := by simp
            have b6 : decide (i < i) = false := by simp
            have hfin : (ML.take i).map (rp was) ++ ML.drop i = ML.map (rp was) := by rw [List.take_of_length_le (by have := HML.out; omega), List.drop_of_length_le (by have := HML.out; omega), List.append_nil]
            rw [hfin] at hv HV
            clear hv
            by_cases hc : CC = was
            · have hce : (CC == was) = true := by simp [hc]
              have HST2 : Hid (Tvr (wr.setCell ⟨tb, 1, none⟩ (.int .i64 0)) tb g7 i cap7 (ML.map (rp was)) 0) := ⟨heap_set HV.out.box _, HV.out.og.kept ((Kept.refl (fun q => q = tb) wr).setCell (p := ⟨tb, 1, none⟩) rfl _) HV.out.ne, HV.out.ne⟩
              have HKT : Hid (Kept (fun q => q = g7 ∨ q = tb) w8 (wr.setCell ⟨tb, 1, none⟩ (.int .i64 0))) := HK.out.setCell (p := ⟨tb, 1, none⟩) (.inr rfl) _
              have HC1 : Hid ((0 : Int) = if CC = was then 0 else CC) := by show _ = _; rw [if_pos hc]
              clear hc hfin
              go_wp2_with fail
              go_roundw
              case rel => exact HFIN.out _ _ HST2.out HC1.out HKT.out
              case measure => rw [HT0.out]; exact HMS.out _ _ HST2.out
            · have hce : (CC == was) = false := by rw [beq_eq_false_iff_ne]; exact hc
              have HC1 : Hid (CC = if CC = was then 0 else CC) := by show _ = _; rw [if_neg hc]
              clear hc hfin
              go_wp2_with fail
              go_roundw
              case rel => exact HFIN.out _ _ HV.out HC1.out HK.out
              case measure => rw [HT0.out]; exact HMS.out _ _ HV.out
      · rw [if_neg h0] at cL
        have hpr : Hid (prI (j + 1) p0 = (CL.eraseIdx R, CC)) := by show _ = _; rw [HST.out]; unfold prn; rw [HRR2.out, if_neg h0]
        obtain ⟨pre, e, post, hLe, hpl, her⟩ := split_at (L := CL) (i := R) (by omega)
        have hb : decide ((0 : Int) < (R : Int)) = true := decide_eq_true (by omega)
        have hb2 : decide (0 < R) = true := decide_eq_true (by omega)
        have hRM : R < M := by have := HCL.out; omega
        go_upto_region 10 with (go_at_call 35; refine cL.mono ?_; rintro r w6 ⟨rfl, hk6⟩; have HV6 := Lib.hid (HV.out.kept hk6 id id); have HR6 := Lib.hid ((hk6.block _ (heap_lt HRR.out) id).trans HRR.out); have HK6 := Lib.hid (HKR.out.trans hk6); clear hk6 cL t0 t1 t2 t3)
        have hl6 := HV6.out.og.len
        have hle6 := HV6.out.og.le
        obtain ⟨K, hK⟩ : ∃ K, M - (R + 1) = K := ⟨_, rfl⟩
        have hpo : post.length = K := by have := congrArg List.length hLe; simp at this; omega
        have HFL : Hid ((flatN post).length = K * 4) := by show _ = _; rw [flatN_len, hpo]
        have hRK : R + K = M - 1 := by omega
        have HRK := Lib.hid hRK
        have HPO := Lib.hid hpo
        have HPL2 := Lib.hid hpl
        have hcH := fun u => run_ncut_h u (some ⟨g5, 0, none⟩) M cap5 R (R : Int) rfl (by omega)
        have hcL := fun u => run_ncut_l u (some ⟨g5, 0, none⟩) M cap5 (R + 1) ((R : Int) + 1) (by omega) (by omega) hle6
        have wR : IntKind.i64.wrap ((R : Int) + 1) = (R : Int) + 1 := IntWalk.i64_in _ ⟨by omega, by omega⟩
        have ⟨AD, hAD, hsrc⟩ : ∃ AD : Addr, (if cap5 = R + 1 then (some ⟨g5, 0, none⟩ : Option Addr) else (some (⟨g5, 0, none⟩ : Addr)).map (·.add ((R + 1) * 4))) = some AD ∧ (∀ W, Kept (fun _ => False) w6 W → ∀ t u, (flatN post)[t]? = some u → W.cell? (AD.add t) = some u) := by
          by_cases h : cap5 = R + 1
          · refine ⟨⟨g5, 0, none⟩, if_pos h, fun W hW t u hu => ?_⟩
            have h1 := HFL.out
            rw [List.getElem?_eq_none (by omega)] at hu
            cases hu
          · refine ⟨⟨g5, (R + 1) * 4, none⟩, by rw [if_neg h, Option.map_some, addr_add, Nat.zero_add], fun W hW t u hu => ?_⟩
            rw [addr_add]
            refine (HV6.out.kept hW id id).og.cell (j := (R + 1) * 4 + t) ?_
            rw [hLe, show pre ++ e :: post = (pre ++ [e]) ++ post by simp, flatN_app, List.getElem?_append_right (by rw [flatN_len]; simp; omega), flatN_len]
            rw [show (R + 1) * 4 + t - (pre ++ [e]).length * 4 = t by simp; omega]
            exact hu
        rw [hAD, hK] at hcL
        have HSRC := Lib.hid hsrc
        have HKF : Hid (∀ W, Kept (fun _ => False) w6 W → W.cell? ⟨tb, 0, none⟩ = some (.slice (some ⟨g5, 0, none⟩) M cap5) ∧ W.frozen? ⟨tb, 0, none⟩ = false) := fun W h => ⟨(tree_facts (HV6.out.kept h id id).box).1, (tree_facts (HV6.out.kept h id id).box).2.2.1⟩
        have hpt : CL.take R = pre := by rw [hLe, List.take_append_of_le_length (by omega), List.take_of_length_le (by omega)]
        have hce := copynodes_any (some ⟨g5, 0, none⟩) R cap5 pre w6.drew (by rw [← hpt]; exact ((HV6.out.kept (Kept.refl (fun _ => False) w6).drew id id).og.ng).take (by omega)) (by omega)
        have K6 := (HKF.out w6.drew (Kept.refl (fun _ => False) w6).drew).1
        have K6' := (HKF.out w6 (Kept.refl (fun _ => False) w6)).1
        have HER := Lib.hid her
        have hbK : R + K ≤ 1000000 := by omega
        obtain ⟨M1, hM1⟩ : ∃ M1, M - 1 = M1 := ⟨_, rfl⟩
        have HM2 : Hid (N - (j + 1) = M1) := by show _ = _; rw [← hM1]; exact HM1.out
        have HRM : Hid (R + K = M1) := by show _ = _; omega
        have hM10 : 0 < M1 := by omega
        clear hAD hsrc hl6 hle6 hK hpo hRK hLe hpl her hpt hM1
        go_region_law (first
          | (go_simp; go_at_call 34; refine hce.mono ?_; rintro r w7 ⟨⟨v7, rfl, hO7⟩, hk7⟩; have HK7 : Hid (Kept (fun _ => False) w6 w7) := ((Kept.refl (fun _ => False) w6).drew).trans hk7; have HO7 := Lib.hid hO7; have K7 := (HKF.out w7 HK7.out).1; have HB7 : Hid (w6.drew.heap.size ≤ w7.heap.size) := hk7.size; clear hce hO7 hk7)
          | (refine step_append_nodes rfl (.tmp 56) (.tmp 61) rfl w6.drew.heap.size v7 R (flatN pre) rfl (by have h := HO7.out; unfold On at h; rw [HPL2.out] at h; exact h) AD K (cap5 - (R + 1)) (flatN post) rfl HFL.out (HSRC.out _ HK7.out) flatN_one' hbK HB7.out ?_; intro v8 w8 hown8 hgrow8; have hon8 : On w8 w6.drew.heap.size v8 (CL.eraseIdx R) := (by rw [HER.out]; unfold On; rw [List.length_append, HPL2.out, HPO.out, flatN_app]; exact hown8); obtain ⟨g8, cap8, rfl, hBg8, hog8⟩ := hon8.og' (n := M1) (by rw [HER.out, List.length_append, HPL2.out, HPO.out]; exact HRM.out) hM10; have HBG8 : Hid (w6.drew.heap.size ≤ g8) := hBg8; have HO8 := Lib.hid hog8; have HK8 : Hid (Kept (fun _ => False) w6 w8) := Kept.grew HK7.out hgrow8 (fun q hq => (HO7.out.lt q hq).1); have K8 := (HKF.out w8 HK8.out).1; have Z8 := (HKF.out w8 HK8.out).2; clear hown8 hgrow8 hon8 hBg8 hog8))
        all_goals
          have hT8 : Hid (tb + 2 ≤ g8) := by have := HBG8.out; have h2 : w6.drew.heap.size = w6.heap.size := rfl; have := heap_lt HR6.out; show _ ≤ _; omega
          have hks : Kept (fun q => q = tb) w8 (w8.setCell ⟨tb, 0, none⟩ (.slice (some ⟨g8, 0, none⟩) M1 cap8)) := (Kept.refl (fun q => q = tb) w8).setCell (p := ⟨tb, 0, none⟩) rfl _
          have hgt8 : g8 ≠ tb := by have := hT8.out; omega
          have HV9 : Hid (Tvr (w8.setCell ⟨tb, 0, none⟩ (.slice (some ⟨g8, 0, none⟩) M1 cap8)) tb g8 M1 cap8 (CL.eraseIdx R) CC) := ⟨heap_set ((HK8.out.block _ (heap_lt HV6.out.box) id).trans HV6.out.box) _, HO8.out.kept hks hgt8, hgt8⟩
          have HR9 := Lib.hid ((hks.block _ (Nat.lt_of_lt_of_le (heap_lt HR6.out) HK8.out.size) (by show ¬ tb + 1 = tb; omega)).trans ((HK8.out.block _ (heap_lt HR6.out) id).trans HR6.out))
          have HK9 := Lib.hid ((HK6.out.trans HK8.out).fresh hks (fun b hb h => by have := HTB.out; omega))
          have HT9 : Hid (sliceLen ((w8.setCell ⟨tb, 0, none⟩ (.slice (some ⟨g8, 0, none⟩) M1 cap8)).cell? ⟨tb, 0, none⟩) = M1) := by show _ = _; rw [(tree_facts HV9.out.box).1]; rfl
          have hMM : M1 < M := by have := HRM.out; have := HRK.out; omega
          go_wp2_with fail
          go_roundw
          case rel => exact ⟨j + 1, g8, cap8, by omega, by rw [hpr.out, HM2.out]; exact HV9.out, hT8.out, HR9.out, HK9.out⟩
          case measure => rw [HT0.out, HT9.out]; exact hMM
    · obtain rfl : j = NN := by omega
      have hnj : ¬ most < N - j := by have := HNN.out; omega
      obtain ⟨M, hM⟩ : ∃ M, N - j = M := ⟨_, rfl⟩
      rw [hM] at hnj t0
      have HV' := Lib.hid (hM ▸ hv)
      have b1 : decide ((most : Int) < (M : Int)) = false := decide_eq_false (by omega)
      have b2 : decide (most < M) = false := decide_eq_false hnj
      obtain ⟨CL, CC⟩ := CM
      have hcm : prI j p0 = (CL, CC) := HCM.out.symm
      rw [hcm] at HV' t1
      simp only at HV' t1
      obtain ⟨r0, r1, r2, r3⟩ := tree_facts HRR.out
      clear hv hM hnj hcm
      go_wp2_with fail
      refine bodyPost_ret (res_t1 rfl _ _ (tb + 1) _ CC rfl rfl (tree_set HRR.out _ _)) rfl ⟨⟨_, rfl, ?ho⟩, ?hk⟩
      case ho =>
        have h1 := (HV'.out.og.kept (Kept.tree (g := tb + 1) (S := fun q => q = tb + 1) (Kept.refl (fun q => q = tb + 1) wr) rfl (.slice (some ⟨g5, 0, none⟩) M cap5) (.int .i64 CC)) (by have := HG5.out; show ¬ g5 = tb + 1; omega)).on (B := w.heap.size) (by have := HG5.out; have := HTB.out; omega)
        exact h1
      case hk => exact HKR.out.fresh (Kept.tree (g := tb + 1) (S := fun q => q = tb + 1) (Kept.refl (fun q => q = tb + 1) wr) rfl _ _) (fun b hb h => by have := HTB.out; omega)
end Go.Proofs.YthbfmdnibijapaaDoor
