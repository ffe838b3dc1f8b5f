/-
  HISTORY: blank trees pruned alike; a node more.
  HISTORY of a tree: committed to.
  HISTORY of a tree: made; what may not be.
  HISTORY: a place that may not be.
  HISTORY: a way is one alone.
-/
import Derived.Test.YthbfmdnibijapaaDoorHz24
import Derived.Test.YthbfmdnibijapaaDoorHz18
import Derived.Test.YthbfmdnibijapaaDoorHz23
set_option linter.unusedVariables false
namespace Go.Proofs.YthbfmdnibijapaaDoor
open Go Go.RowKit

def blk (e : NodeS) : NodeS := ⟨e.sq, e.pa, e.at_, ⟨#[]⟩⟩
theorem blank_blk (L : List NodeS) : blank L = L.map blk := rfl
theorem lfB_blank (L : List NodeS) (cur : Int) (i : Nat) : lfB (blank L) cur i = lfB L cur i := by
  unfold lfB
  cases hx : L[i]? with
  | none =>
    have h2 : (blank L)[i]? = none := by unfold blank; rw [List.getElem?_map, hx]; rfl
    rw [h2]
  | some x =>
    rw [blank_get hx]
    simp only
    rw [blank_blk, ← List.map_drop, List.any_map]
    rfl
theorem elf_blank (L : List NodeS) (cur : Int) : elf (blank L) cur = elf L cur := by
  unfold elf
  rw [blank_len]
  congr 2
  funext i
  rw [lfB_blank]
theorem rp_blk (was : Int) (e : NodeS) : rp was (blk e) = blk (rp was e) := by
  unfold rp blk
  simp only
  split <;> rfl
theorem map_erase : ∀ (L : List NodeS) (i : Nat), (L.map blk).eraseIdx i = (L.eraseIdx i).map blk
  | [], _ => rfl
  | x :: L, 0 => rfl
  | x :: L, i + 1 => by
    show blk x :: (L.map blk).eraseIdx i = blk x :: (L.eraseIdx i).map blk
    rw [map_erase L i]
theorem prn_blank (L : List NodeS) (cur : Int) : prn (blank L) cur = (blank (prn L cur).1, (prn L cur).2) := by
  unfold prn
  rw [elf_blank]
  split
  · match L with
    | [] => rfl
    | [r] => rfl
    | r :: c :: rest =>
      have e1 : drp (blank (r :: c :: rest)) = blank (drp (r :: c :: rest)) := by
        show (({ blk c with sq := 0, pa := -1 } :: rest.map blk).map (rp c.sq)) = (({ c with sq := 0, pa := -1 } :: rest).map (rp c.sq)).map blk
        rw [List.map_cons, List.map_cons, List.map_cons, List.map_map, List.map_map]
        congr 1
        · exact rp_blk c.sq { c with sq := 0, pa := -1 }
        · congr 1
          funext x
          exact rp_blk c.sq x
      rw [e1]
      rfl
  · rw [blank_blk, blank_blk]
    simp only
    congr 1
    exact map_erase L _
theorem cmt_blank {L : List NodeS} {cur z : Int} {t : ByteArray} {a : Int} {most : Nat} (h : L.length ≤ most) : cmt (blank L) cur z ⟨#[]⟩ a most = (blank (cmt L cur z t a most).1, (cmt L cur z t a most).2) := by
  have hl := blank_len L
  have hb : blank L ++ [⟨z + 1, cur, a, ⟨#[]⟩⟩] = blank (L ++ [⟨z + 1, cur, a, t⟩]) := by
    rw [blank_blk, blank_blk, List.map_append]
    rfl
  unfold cmt
  rw [hl, hb]
  rcases (by omega : L.length + 1 - most = 0 ∨ L.length + 1 - most = 1) with h1 | h1
  · rw [h1]; rfl
  · rw [h1]
    exact prn_blank _ _
theorem Tr9.snoc {L : List NodeS} {l : NodeS} {cur at' : Int} {t : ByteArray} (h : Tr9 L) (hl : L.getLast? = some l) (hc : ∃ p ∈ L, p.sq = cur) (ha : 0 ≤ at' ∧ at' ≤ 4000) (ht : mayB t = true) (hq : l.sq < 1073741824) : Tr9 (L ++ [⟨l.sq + 1, cur, at', t⟩]) := by
  have hlm := List.mem_of_getLast? hl
  have hlk : L[L.length - 1]? = some l := by rw [List.getLast?_eq_getElem?] at hl; exact hl
  have hbig : ∀ x ∈ L, x.sq ≤ l.sq := by
    intro x hx
    obtain ⟨i, hi⟩ := List.getElem?_of_mem hx
    have hil := get_lt hi
    by_cases e : i = L.length - 1
    · subst e
      rw [hlk] at hi
      injection hi with hi
      subst hi
      exact Int.le_refl _
    · have := h.ord.srt i (L.length - 1) x l hi hlk (by omega)
      omega
  obtain ⟨p, hp, hpc⟩ := hc
  have hl0 := h.ord.ge l hlm
  refine ⟨h.ord.snoc hl (by show l.sq < l.sq + 1; omega) (by show cur < l.sq + 1; have := hbig p hp; omega) (by show 0 ≤ l.sq + 1; omega), fun e he hs => ?_, ?_, fun e he => ?_, fun e he => ?_⟩
  · rcases List.mem_append.1 he with he | he
    · obtain ⟨x, hx, hq⟩ := h.par e he hs
      exact ⟨x, by simp [hx], hq⟩
    · rw [List.mem_singleton.1 he]
      exact ⟨p, by simp [hp], hpc⟩
  · obtain ⟨r, rest, rfl, h0, h1⟩ := h.root
    exact ⟨r, rest ++ [_], rfl, h0, h1⟩
  · rcases List.mem_append.1 he with he | he
    · exact h.may e he
    · rw [List.mem_singleton.1 he]; exact ht
  · rcases List.mem_append.1 he with he | he
    · exact h.at_ e he
    · rw [List.mem_singleton.1 he]; exact ⟨ha, by show l.sq + 1 ≤ _; omega⟩
/-- The last node's text stays. -/
theorem prn_last {L : List NodeS} {cur : Int} (h3 : 3 ≤ L.length) {l : NodeS} (hl : L.getLast? = some l) (hlc : l.sq = cur) (h : Tr9 L) : ∃ l', (prn L cur).1.getLast? = some l' ∧ l'.sq = cur ∧ l'.tx = l.tx := by
  unfold prn
  by_cases hz : elf L cur = 0
  · rw [if_pos hz]
    match L, h3, hl with
    | r :: c :: x :: rest, _, hl =>
      refine ⟨rp c.sq l, ?_, by rw [rp_sq]; exact hlc, rp_tx _ _⟩
      show ((({ c with sq := 0, pa := -1 } : NodeS) :: x :: rest).map (rp c.sq)).getLast? = _
      rw [List.getLast?_map, List.getLast?_cons_cons]
      rw [List.getLast?_cons_cons, List.getLast?_cons_cons] at hl
      rw [hl]
      rfl
  · rw [if_neg hz]
    obtain ⟨h1, h2, hlf⟩ := elf_pos hz
    obtain ⟨e0, he0⟩ : ∃ e0, L[elf L cur]? = some e0 := ⟨_, List.getElem?_eq_getElem h2⟩
    unfold lfB at hlf
    rw [he0] at hlf
    simp only [Bool.and_eq_true, Bool.not_eq_true', List.any_eq_false] at hlf
    refine ⟨l, ?_, hlc, rfl⟩
    have hll : L[L.length - 1]? = some l := by rw [List.getLast?_eq_getElem?] at hl; exact hl
    have hne : elf L cur ≠ L.length - 1 := by
      intro e
      rw [e, hll] at he0
      injection he0 with he0
      subst he0
      have := hlf.1
      simp [hlc] at this
    rw [List.getLast?_eq_getElem?, List.length_eraseIdx, if_pos h2, List.getElem?_eraseIdx, if_neg (by omega), show L.length - 1 - 1 + 1 = L.length - 1 by omega]
    exact hll
/-- What committing leaves. -/
theorem cmt_keeps {L : List NodeS} {l : NodeS} {cur at' : Int} {t : ByteArray} {most : Nat} (h : Tr9 L) (hle : L.length ≤ most) (hm : 2 ≤ most ∧ most ≤ 63) (hl : L.getLast? = some l) (hc : ∃ p ∈ L, p.sq = cur) (ha : 0 ≤ at' ∧ at' ≤ 4000) (ht : mayB t = true) (hq : l.sq < 1073741824) :
    (cmt L cur l.sq t at' most).2 = l.sq + 1 ∧ Tr9 (cmt L cur l.sq t at' most).1 ∧ (∃ l', (cmt L cur l.sq t at' most).1.getLast? = some l' ∧ l'.sq = l.sq + 1 ∧ l'.tx = t) ∧ (1 ≤ (cmt L cur l.sq t at' most).1.length ∧ (cmt L cur l.sq t at' most).1.length ≤ most) ∧
      ∀ z q d u, treeG (cmt L cur l.sq t at' most).1 z = some (q, d, u) → ∃ q', treeG (L ++ [⟨l.sq + 1, cur, at', t⟩]) z = some (q', d, u) := by
  have h1 := h.snoc hl hc ha ht hq
  have hlast : (L ++ [(⟨l.sq + 1, cur, at', t⟩ : NodeS)]).getLast? = some ⟨l.sq + 1, cur, at', t⟩ := by rw [List.getLast?_concat]
  have hlen : (L ++ [(⟨l.sq + 1, cur, at', t⟩ : NodeS)]).length = L.length + 1 := by simp
  unfold cmt
  rcases (by omega : L.length + 1 - most = 0 ∨ L.length + 1 - most = 1) with e | e
  · rw [e]
    show (l.sq + 1 = l.sq + 1) ∧ Tr9 (L ++ [(⟨l.sq + 1, cur, at', t⟩ : NodeS)]) ∧ _
    exact ⟨rfl, h1, ⟨_, hlast, rfl, rfl⟩, ⟨by show 1 ≤ (L ++ [_]).length; omega, by show (L ++ [_]).length ≤ most; omega⟩, fun z q d u hz => ⟨q, hz⟩⟩
  · rw [e]
    generalize L ++ [(⟨l.sq + 1, cur, at', t⟩ : NodeS)] = M at *
    obtain ⟨k1, k2, k3⟩ := prn_keeps h1 (by omega) (by omega) ⟨_, hlast, rfl⟩
    have k4 := prn_last (by omega) hlast rfl h1
    have k5 := prn_len (L := M) (cur := l.sq + 1) (by omega)
    show (prn M (l.sq + 1)).2 = _ ∧ Tr9 (prn M (l.sq + 1)).1 ∧ _
    refine ⟨k3, k1, k4, ⟨by show 1 ≤ (prn M (l.sq + 1)).1.length; omega, by show (prn M (l.sq + 1)).1.length ≤ most; omega⟩, fun z q d u hz => ?_⟩
    exact treeG_prn h1 (by omega) (by omega) ⟨_, hlast, rfl⟩ hz
end Go.Proofs.YthbfmdnibijapaaDoor
namespace Go.Proofs.YthbfmdnibijapaaDoor
open Go Go.RowKit

theorem last_big {L : List NodeS} {l : NodeS} (h : Ord L) (hl : L.getLast? = some l) : ∀ x ∈ L, x.sq ≤ l.sq := by
  have hlk : L[L.length - 1]? = some l := by rw [List.getLast?_eq_getElem?] at hl; exact hl
  intro x hx
  obtain ⟨i, hi⟩ := List.getElem?_of_mem hx
  have hil := get_lt hi
  by_cases e : i = L.length - 1
  · subst e
    rw [hlk] at hi
    injection hi with hi
    subst hi
    exact Int.le_refl _
  · have := h.srt i (L.length - 1) x l hi hlk (by omega)
    omega
/-- The links behind a commit, ahead of pruning. -/
theorem link_snoc {L : List NodeS} {l : NodeS} {cur at' : Int} {t : ByteArray} {kv : List (Int × Value)} (h : Tr9 L) (hle : L.length ≤ 63) (hl : L.getLast? = some l) (hc : 0 ≤ idx L cur) (ha : 0 ≤ at' ∧ at' ≤ 4000) (ht : mayB t = true) (hq : l.sq < 1073741824)
    (hkv : ∀ z q d u, treeG L z = some (q, d, u) → kv.lookup z = some (lnkV d u)) (hno : kv.lookup (l.sq + 1) = none) :
    ∀ z q d u, treeG (L ++ [⟨l.sq + 1, cur, at', t⟩]) z = some (q, d, u) → (kv ++ [(l.sq + 1, lnkV (bt (txAt L cur) t) (bt t (txAt L cur)))]).lookup z = some (lnkV d u) := by
  obtain ⟨ic, ec, hic, hec, hecs⟩ := idx_some hc
  have hecm := List.mem_of_getElem? hec
  have h1 := h.snoc hl ⟨ec, hecm, hecs⟩ ha ht hq
  have hbig := last_big h.ord hl
  have htx : txAt L cur = ec.tx := by rw [← hecs]; exact txAt_eq (h.tr8 (by omega)) hec
  intro z q d u hz
  obtain ⟨e, he, p, hp, hez, hes, hpq, hqe, hd, hu⟩ := (treeG_iff h1 (by simp; omega)).1 hz
  rw [lookup_snoc]
  have hpe := h1.ord.pa e he
  rcases List.mem_append.1 he with he | he
  · have hpm : p ∈ L := by
      rcases List.mem_append.1 hp with hp | hp
      · exact hp
      · rw [List.mem_singleton.1 hp] at hpq
        have := hbig e he
        simp only at hpq
        omega
    have hg := (treeG_iff h (by omega)).2 ⟨e, he, p, hpm, hez, hes, hpq, hqe, hd, hu⟩
    rw [hkv z q d u hg]
    rfl
  · have hen := List.mem_singleton.1 he
    subst hen
    simp only at hez hpq hd hu
    have hpm : p ∈ L := by
      rcases List.mem_append.1 hp with hp | hp
      · exact hp
      · rw [List.mem_singleton.1 hp] at hpq
        have := hbig ec hecm
        simp only at hpq
        omega
    have hpc := h.ord.inj hpm hecm (by rw [hecs]; exact hpq)
    subst hpc
    rw [← hez, hno, if_pos rfl, hd, hu, htx]
    rfl
theorem hx_commit {B most hb : Nat} {L : List NodeS} {cur k : Int} {W : World} (h : Hx B most hb L cur k W) (h9 : Tr9 L) (hle : L.length ≤ most) (hm : 2 ≤ most ∧ most ≤ 63) (hB : B ≤ W.heap.size) (t : ByteArray) (at' : Int) (ht : mayB t = true) (ha : 0 ≤ at' ∧ at' ≤ 4000) {l : NodeS} (hl : L.getLast? = some l) (hq : l.sq < 1073741824) :
    Calls Tryd.prog 25 #[.pointer (some ⟨hb, 0, none⟩), .string t, .int .i64 at'] W fun r w' => r = .returned (.int .i64 0) ∧ Hx B most hb (cmt L cur l.sq t at' most).1 (cmt L cur l.sq t at' most).2 k w' ∧ Tr9 (cmt L cur l.sq t at' most).1 ∧ Kept (fun q => q = hb ∨ (B ≤ q ∧ MapAt W q)) W w' := by
  obtain ⟨ad, cp, mb, kv, hqq, hcp, hmb, hkv, hno⟩ := h.q
  have hcu : 0 ≤ idx L cur := by have := h.mt.cu; rw [blank_idx] at this; exact this
  obtain ⟨ic, ec, hic, hec, hecs⟩ := idx_some hcu
  have hbig := last_big h9.ord hl
  have hl0 := h9.ord.ge l (List.mem_of_getLast? hl)
  have hnz : idx L (l.sq + 1) ≤ 0 := by
    rw [idx_miss (fun e he => by have := hbig e he; omega)]
    omega
  have hnone := hno _ hnz
  have hlk := link_snoc h9 (by omega) hl hcu ha ht hq hkv hnone
  obtain ⟨k1, k2, ⟨l', hl', hls, hlt⟩, ⟨k3, k4⟩, k5⟩ := cmt_keeps h9 hle hm hl ⟨ec, List.mem_of_getElem? hec, hecs⟩ ha ht hq
  have hcb := cmt_blank (cur := cur) (z := l.sq) (t := t) (a := at') hle
  obtain ⟨L', hL'⟩ : ∃ L', (cmt L cur l.sq t at' most).1 = L' := ⟨_, rfl⟩
  rw [hL'] at k2 hl' k3 k4 k5 hcb ⊢
  rw [k1] at hcb ⊢
  have htr' := k2.tr8 (by omega)
  have hbl : (blank L).getLast? = some (blk l) := by rw [blank_blk, List.getLast?_map, hl]; rfl
  have hkey : ∀ (i : Nat) (x : NodeS), L'[i + 1]? = some x → ∃ q d u, treeG L' x.sq = some (q, d, u) := by
    intro i x hx
    obtain ⟨j, p, hp, hpq⟩ := htr'.par (i + 1) x hx (by omega)
    exact ⟨_, _, _, treeG_at htr' hx (by omega) hp hpq⟩
  have hlk' : ∀ z q d u, treeG L' z = some (q, d, u) → (kv ++ [(l.sq + 1, lnkV (bt (txAt L cur) t) (bt t (txAt L cur)))]).lookup z = some (lnkV d u) := by
    intro z q d u hz
    obtain ⟨q', hz'⟩ := k5 z q d u hz
    exact hlk z q' d u hz'
  have hdrop : ∀ e ∈ (blank L').drop 1, ∃ (i : Nat) (x : NodeS), L'[i + 1]? = some x ∧ e = blk x := by
    intro e he
    obtain ⟨i, hi⟩ := List.getElem?_of_mem he
    rw [List.getElem?_drop, Nat.add_comm 1 i] at hi
    obtain ⟨x, hx, hxe⟩ := blank_of hi
    exact ⟨i, x, hx, hxe⟩
  have hwf : ∀ x ∈ L', (Lit.int .i64 x.sq).wf = true := fun x hx => by
    have h1 := (k2.at_ x hx).2
    have h2 := k2.ord.ge x hx
    exact WalkArith.wf_i64 (by omega)
  have hsp : mayB (txAt L cur) = true := by
    have e1 : txAt L cur = ec.tx := by rw [← hecs]; exact txAt_eq h.tr hec
    rw [e1]
    exact h9.may ec (List.mem_of_getElem? hec)
  have hsrt : Srt (blank L') := by
    have hm' := k2.mayT (by omega) (cur := l.sq + 1) (by
      obtain ⟨j, hj⟩ := List.getElem?_of_mem (List.mem_of_getLast? hl')
      exact idx_ge hj hls)
    exact ok_srt hm'.ok
  have hmt' := k2.mayT (by omega) (cur := l.sq + 1) (by
      obtain ⟨j, hj⟩ := List.getElem?_of_mem (List.mem_of_getLast? hl')
      exact idx_ge hj hls)
  have hq2 := hqq
  rw [← blank_len L] at hq2 hcp
  have cC := hcommit_any most t at' (blk l) (blank L', l.sq + 1) W hq2 hcp h.mt hsp ht ha ⟨hm.1, by omega⟩ hbl ⟨hl0, hq⟩ hcb hsrt (by rw [blank_len]; omega) hnone (by
    have := hwf l' (List.mem_of_getLast? hl')
    rw [hls] at this
    exact this) (by
    intro e he
    obtain ⟨i, x, hx, rfl⟩ := hdrop e he
    obtain ⟨q, d, u, hg⟩ := hkey i x hx
    exact ⟨⟨_, hlk' _ _ _ _ hg⟩, hwf x (List.mem_of_getElem? hx)⟩)
  refine cC.mono ?_
  rintro r w' ⟨rfl, ⟨g, c', mb', hg, hmb', hc', hq'⟩, hk'⟩
  simp only at hc' hq'
  rw [blank_len] at hc' hq'
  have htx' : txAt L' (l.sq + 1) = t := by
    obtain ⟨j, hj⟩ := List.getElem?_of_mem (List.mem_of_getLast? hl')
    rw [← hls, txAt_eq htr' hj, hlt]
  refine ⟨rfl, ⟨⟨⟨g, 0, none⟩, c', mb', _, by rw [htx']; exact hq', hc', by omega, fun z q d u hz => ?_, fun z hz => ?_⟩, htr', hmt', h.lo⟩, k2, hk'.mono (fun q _ e => e.imp id (fun e => by obtain ⟨es, cl, hm, _⟩ := hqq.mp; exact ⟨by omega, es, cl, e ▸ hm⟩))⟩
  · obtain ⟨e, he, p, hp, hez, hes, _⟩ := (treeG_iff k2 (by omega)).1 hz
    obtain ⟨i, hi⟩ := List.getElem?_of_mem he
    have hi0 : i ≠ 0 := fun e0 => hes ((k2.sq0 hi).1 e0).1
    have hmem : blk e ∈ (blank L').drop 1 := by
      refine List.mem_of_getElem? (i := i - 1) ?_
      rw [List.getElem?_drop, show 1 + (i - 1) = i by omega]
      exact blank_get hi
    have := keepL_has (e := blk e) (v := lnkV d u) hmem (by
      show List.lookup e.sq _ = _
      rw [hez]
      exact hlk' z q d u hz)
    rw [← hez]
    exact this
  · refine lookup_none (fun p hp => ?_)
    unfold keepL at hp
    obtain ⟨x, hx, rfl⟩ := List.mem_map.1 hp
    obtain ⟨i, y, hy, rfl⟩ := hdrop x hx
    show y.sq ≠ z
    intro e
    have := idx_hit htr'.ord.srt hy e
    omega
end Go.Proofs.YthbfmdnibijapaaDoor
namespace Go.Proofs.YthbfmdnibijapaaDoor
open Go Go.RowKit

theorem tr9_root (s : ByteArray) (hs : mayB s = true) : Tr9 [⟨0, -1, 0, s⟩] := by
  refine ⟨⟨fun i j a b ha hb hij => ?_, fun e he => ?_, fun e he => ?_⟩, fun e he hn => ?_, ⟨_, [], rfl, rfl, rfl⟩, fun e he => ?_, fun e he => ?_⟩
  · have h1 := get_lt ha
    have h2 := get_lt hb
    simp at h1 h2
    omega
  · rw [List.mem_singleton.1 he]; show (-1 : Int) < 0; omega
  · rw [List.mem_singleton.1 he]; show (0 : Int) ≤ 0; omega
  · rw [List.mem_singleton.1 he] at hn; exact absurd rfl hn
  · rw [List.mem_singleton.1 he]; exact hs
  · rw [List.mem_singleton.1 he]; exact ⟨⟨by show (0 : Int) ≤ 0; omega, by show (0 : Int) ≤ 4000; omega⟩, by show (0 : Int) ≤ 1073741824; omega⟩
set_option maxRecDepth 100000 in
set_option maxHeartbeats 4000000 in
theorem hxnew_any (most : Nat) (s : ByteArray) (w : World) (hT : Tabs w) (hm : 2 ≤ most ∧ most ≤ 64) (hs : mayB s = true) :
    Calls Tryd.prog 7 #[.int .i64 most, .string s] w fun r w' => (∃ hb, r = .returned (.tuple #[.pointer (some ⟨hb, 0, none⟩), .int .i64 0]) ∧ Hx w.heap.size most hb [⟨0, -1, 0, s⟩] 0 0 w') ∧ Kept (fun _ => False) w w' := by
  have cN := new_any s w hT hs
  have q1 : decide ((most : Int) < 2) = false := decide_eq_false (by omega)
  have q2 : decide ((64 : Int) < (most : Int)) = false := decide_eq_false (by omega)
  have q3 : decide (most < 2) = false := decide_eq_false (by omega)
  have q4 : decide (64 < most) = false := decide_eq_false (by omega)
  have HT := Lib.hid hT
  have HS := Lib.hid hs
  clear hT hs
  go_enter Tryd.func7, Tryd.ntmps7
  go_upto_region 4 with (go_at_call 29; refine cN.mono ?_; rintro r w1 ⟨⟨v, rfl, hO⟩, hk1⟩; obtain ⟨g, cap, rfl, hBg, hog⟩ := hO.og' (n := 1) rfl (by decide); have HK1 := Lib.hid hk1; have HOG := Lib.hid hog; have HBG := Lib.hid hBg; clear hk1 hO hog hBg cN)
  have HT2 : Hid ((w1.alloc (treeO (.slice (some ⟨g, 0, none⟩) 1 cap) 0)).heap[w1.heap.size]? = some (treeO (.slice (some ⟨g, 0, none⟩) 1 cap) 0)) := heap_alloc_new w1 _
  have HK2 : Hid (Kept (fun _ => False) w (w1.alloc (treeO (.slice (some ⟨g, 0, none⟩) 1 cap) 0))) := HK1.out.alloc _
  have HO2 := Lib.hid (HOG.out.kept ((Kept.refl (fun _ => False) w1).alloc (treeO (.slice (some ⟨g, 0, none⟩) 1 cap) 0)) id)
  simp only [treeO] at HT2 HK2 HO2
  obtain ⟨tb, htb⟩ : ∃ tb, w1.heap.size = tb := ⟨_, rfl⟩
  have HTB : Hid (w.heap.size ≤ tb) := by rw [← htb]; exact HK1.out.size
  simp only [htb] at HT2 ⊢
  clear htb
  generalize w1.alloc _ = w2 at *
  obtain ⟨t0, t1, _⟩ := tree_facts HT2.out
  obtain ⟨cs, hcs, hsz, hfl⟩ := HO2.out.row
  have h4 : Nd4 w2 ⟨g, 0, none⟩ ⟨0, -1, 0, s⟩ := (HO2.out.ng.nd (i := 0) rfl).2
  obtain ⟨e0, e1, e2, e3⟩ := h4.cs
  have k3 : w2.frozen? ⟨g, 3, none⟩ = false := frozen_of hcs
  have HCS := Lib.hid hcs
  have HTG : Hid (tb ≠ g) := by
    show _ ≠ _
    intro e
    have h1 := HT2.out
    rw [e, hcs] at h1
    injection h1 with h1
    injection h1 with _ h1
    exact absurd h1 (by decide)
  have HCZ : Hid (4 ≤ cs.size) := by have := HO2.out.le; show _ ≤ _; omega
  have HD4 : Hid (Nd4 (w2.setCell ⟨g, 3, none⟩ (.string ⟨#[]⟩)) ⟨g, 0, none⟩ ⟨0, -1, 0, ⟨#[]⟩⟩) := by
    have hz := HCZ.out
    have h2 := heap_set (i := 3) hcs (.string ⟨#[]⟩)
    refine ⟨?_, ?_, ?_, ?_⟩
    · rw [cell_of_row _ g 0 _ _ _ h2, Array.getElem?_setIfInBounds_ne (by decide), ← cell_of_row _ g 0 _ _ _ hcs]; exact e0
    · show World.cell? _ ⟨g, 0 + 1, none⟩ = _
      rw [cell_of_row _ g _ _ _ _ h2, Array.getElem?_setIfInBounds_ne (by decide), ← cell_of_row _ g _ _ _ _ hcs]; exact e1
    · show World.cell? _ ⟨g, 0 + 2, none⟩ = _
      rw [cell_of_row _ g _ _ _ _ h2, Array.getElem?_setIfInBounds_ne (by decide), ← cell_of_row _ g _ _ _ _ hcs]; exact e2
    · show World.cell? _ ⟨g, 0 + 3, none⟩ = _
      rw [cell_of_row _ g _ _ _ _ h2, Array.getElem?_setIfInBounds_self_of_lt (by omega)]
  have HK3 : Hid (Kept (fun q => q = g) w2 (w2.setCell ⟨g, 3, none⟩ (.string ⟨#[]⟩))) := (Kept.refl (fun q => q = g) w2).setCell (p := ⟨g, 3, none⟩) rfl _
  have HT3 : Hid ((w2.setCell ⟨g, 3, none⟩ (.string ⟨#[]⟩)).heap[tb]? = some (treeO (.slice (some ⟨g, 0, none⟩) 1 cap) 0)) := (heap_far HTG.out _).trans HT2.out
  clear h4 hcs hsz hfl
  go_upto_region 7 with fail
  generalize w2.setCell ⟨g, 3, none⟩ (.string ⟨#[]⟩) = w3 at *
  clear t0 t1 e0 e1 e2 e3 k3
  obtain ⟨t0, t1, _⟩ := tree_facts HT3.out
  have hmm := @run_makeMap Tryd.prog
  go_wp2_with fail
  have hK3 : Kept (fun _ => False) w w3 := HK2.out.fresh HK3.out (fun q hq (e : q = g) => by have := HBG.out; omega)
  have hK5 : Kept (fun _ => False) w3 ((w3.alloc (.map #[] 0)).alloc (histO (most : Int) (.slice (some ⟨g, 0, none⟩) 1 cap) 0 w3.heap.size s 0)) := ((Kept.refl _ w3).alloc _).alloc _
  have hbx := heap_alloc_new (w3.alloc (.map #[] 0)) (histO (most : Int) (.slice (some ⟨g, 0, none⟩) 1 cap) 0 w3.heap.size s 0)
  have hbe : (w3.alloc (.map #[] 0)).heap.size = w3.heap.size + 1 := by simp
  rw [hbe] at hbx
  have htw := HT.out.two
  have hsz3 := hK3.size
  have hng : Ng w3 (some ⟨g, 0, none⟩) 1 [⟨0, -1, 0, ⟨#[]⟩⟩] := by
    refine ⟨rfl, fun k e he => ⟨_, rfl, ?_⟩⟩
    match k, he with
    | 0, he =>
      injection he with he
      subst he
      exact HD4.out
    | k + 1, he => simp at he
  refine bodyPost_ret (v := .tuple #[.pointer (some ⟨w3.heap.size + 1, 0, none⟩), .int .i64 0]) (by simp [results, Tryd.results7, go_sem]) rfl ⟨⟨w3.heap.size + 1, rfl, ?_⟩, hK3.trans hK5⟩
  have h9 := tr9_root s HS.out
  have htx : txAt [⟨0, -1, 0, s⟩] 0 = s := by
    have h1 : idx [(⟨0, -1, 0, s⟩ : NodeS)] 0 = ((0 : Nat) : Int) := idx_hit h9.ord.srt (m := 0) (y := ⟨0, -1, 0, s⟩) rfl rfl
    unfold txAt
    rw [h1]
    rfl
  refine ⟨⟨⟨g, 0, none⟩, cap, w3.heap.size, [], ⟨(HT.out.kept hK3 id id).kept hK5 id id, by rw [htx]; exact hbx, hng.kept hK5 (fun _ _ => id), (MapI.new w3).kept ((Kept.refl (fun _ => False) _).alloc _) id, by omega⟩, HO2.out.le, by omega, fun z q d u hz => ?_, fun z hz => rfl⟩, h9.tr8 (by simp), h9.mayT (by simp) ?_, by omega⟩
  · obtain ⟨e, he, p, hp, hez, hes, _⟩ := (treeG_iff h9 (by simp)).1 hz
    rw [List.mem_singleton.1 he] at hes
    exact absurd rfl hes
  · exact idx_ge (j := 0) (e := ⟨0, -1, 0, s⟩) rfl rfl
theorem hnew_most (most : Int) (s : ByteArray) (w : World) (hm : most < 2) :
    Calls Tryd.prog 7 #[.int .i64 most, .string s] w fun r w' => r = .returned (.tuple #[.pointer none, .int .i64 1]) ∧ w' = w := by
  have q1 : decide (most < 2) = true := decide_eq_true hm
  clear hm
  go_enter Tryd.func7, Tryd.ntmps7
  go_wp2_with fail
  exact bodyPost_ret (v := .tuple #[.pointer none, .int .i64 1]) (by simp [results, Tryd.results7, go_sem]) rfl ⟨rfl, rfl⟩
theorem hnew_text (most : Nat) (s : ByteArray) (w : World) (hT : Tabs w) (hm : 2 ≤ most ∧ most ≤ 64) (hs : mayB s = false) (hsz : s.size ≤ 140737488351232) :
    Calls Tryd.prog 7 #[.int .i64 most, .string s] w fun r w' => r = .returned (.tuple #[.pointer none, .int .i64 1]) ∧ Kept (fun _ => False) w w' := by
  have cN := new_no s w hT hsz hs
  have q1 : decide ((most : Int) < 2) = false := decide_eq_false (by omega)
  have q2 : decide ((64 : Int) < (most : Int)) = false := decide_eq_false (by omega)
  have q3 : decide (most < 2) = false := decide_eq_false (by omega)
  have q4 : decide (64 < most) = false := decide_eq_false (by omega)
  have HK : Hid (∀ W o, Kept (fun _ => False) w W → Kept (fun _ => False) w (W.alloc o)) := fun W o hk => hk.alloc o
  clear hT hs hsz
  go_enter Tryd.func7, Tryd.ntmps7
  go_wp2_with (go_at_call 29; refine cN.mono ?_; rintro r w1 ⟨rfl, hk1⟩; have HK1 := Lib.hid hk1; clear hk1 cN)
  exact bodyPost_ret (v := .tuple #[.pointer none, .int .i64 1]) (by simp [results, Tryd.results7, go_sem]) rfl ⟨rfl, HK.out _ _ HK1.out⟩
end Go.Proofs.YthbfmdnibijapaaDoor
namespace Go.Proofs.YthbfmdnibijapaaDoor
open Go Go.RowKit

section
variable {ad : Addr} {n c : Nat} {L : List NodeS} {cur : Int} {mb hb : Nat} {s : ByteArray} {k : Int} {kv : List (Int × Value)}
set_option maxRecDepth 100000 in
set_option maxHeartbeats 8000000 in
theorem hcommit_at (most : Nat) (t : ByteArray) (at' : Int) (w : World) (h : Hq most ad n c L cur mb hb s k kv w) (hnc : n ≤ c) (hM : MayT L cur) (hs : mayB s = true) (ht : mayB t = true) (ha : ¬ (0 ≤ at' ∧ at' ≤ 4000)) :
    Calls Tryd.prog 25 #[.pointer (some ⟨hb, 0, none⟩), .string t, .int .i64 at'] w fun r w' => r = .returned (.int .i64 1) ∧ Kept (fun _ => False) w w' := by
  have hlt := heap_lt h.box
  obtain ⟨_, _, _, _, f4, _⟩ := hist_facts h.box
  have HH := Lib.hid h
  have cB := between_yes s t w h.tabs hs ht
  have cB2 := fun W (hT : Tabs W) => between_yes t s W hT ht hs
  rw [bt_btw] at cB
  rw [bt_btw] at cB2
  have cC := fun W (h : Hq most ad n c L cur mb hb s k kv W) => commit_form ad n c L cur ⟨#[]⟩ at' most W h.ng hnc h.tabs hM (by decide) (fun e => ha e.2.1)
  have HCC := Lib.hid cC
  have HCB2 := Lib.hid cB2
  have HLT := Lib.hid hlt
  obtain ⟨D, hD⟩ : ∃ D, bt s t = D := ⟨_, rfl⟩
  obtain ⟨E, hE⟩ : ∃ E, bt t s = E := ⟨_, rfl⟩
  rw [hD] at cB
  rw [hE] at HCB2
  obtain ⟨d0, d1, d2⟩ := D
  obtain ⟨e0, e1, e2⟩ := E
  try simp only at cB HCB2
  clear h hM hs ht cB2 cC hD hE hlt ha
  go_enter Tryd.func25, Tryd.ntmps25
  go_upto_region 4 with (go_at_call 42; refine cB.mono ?_; rintro e w1 ⟨rfl, hk1⟩; have HK1 := Lib.hid hk1; clear hk1 cB f4)
  have HP2 : Hid ((w1.alloc (patO d0 d1 d2)).heap[w1.heap.size]? = some (patO d0 d1 d2)) := heap_alloc_new w1 _
  have HK2 : Hid (Kept (fun _ => False) w (w1.alloc (patO d0 d1 d2))) := HK1.out.alloc _
  simp only [patO] at HP2 HK2
  obtain ⟨p1, hp1⟩ : ∃ p1, w1.heap.size = p1 := ⟨_, rfl⟩
  have HPL : Hid (w.heap.size ≤ p1) := by rw [← hp1]; exact HK1.out.size
  simp only [hp1] at HP2 ⊢
  clear hp1
  generalize w1.alloc _ = w2 at *
  clear HK1
  have HQ2 := Lib.hid (HH.out.kept HK2.out)
  obtain ⟨_, _, _, _, f4, _⟩ := hist_facts HQ2.out.box
  have cB3 := HCB2.out w2 HQ2.out.tabs
  go_upto_region 5 with (go_at_call 42; refine cB3.mono ?_; rintro e w3 ⟨rfl, hk3⟩; have HK3 := Lib.hid (HK2.out.trans hk3); have HP3 := Lib.hid ((hk3.block _ (heap_lt HP2.out) id).trans HP2.out); clear hk3 cB3 f4)
  have HR4 : Hid ((w3.alloc (patO e0 e1 e2)).heap[w3.heap.size]? = some (patO e0 e1 e2)) := heap_alloc_new w3 _
  have HP4 : Hid ((w3.alloc (patO e0 e1 e2)).heap[p1]? = some (patO d0 d1 d2)) := (((Kept.refl (fun _ => False) w3).alloc _).block _ (heap_lt HP3.out) id).trans HP3.out
  have HK4 : Hid (Kept (fun _ => False) w (w3.alloc (patO e0 e1 e2))) := HK3.out.alloc _
  obtain ⟨p2, hp2⟩ : ∃ p2, w3.heap.size = p2 := ⟨_, rfl⟩
  have HPL2 : Hid (w.heap.size ≤ p2) := by rw [← hp2]; exact HK3.out.size
  simp only [patO] at HP4 HR4 HK4
  simp only [hp2] at HR4 ⊢
  clear hp2
  generalize w3.alloc _ = w4 at *
  clear HK3 HP3 HP2 HK2 HQ2
  have HQ4 := Lib.hid (HH.out.kept HK4.out)
  have KF : Hid (∀ W, Kept (fun _ => False) w4 W → W.cell? ⟨hb, 0, none⟩ = some (.int .i64 most) ∧ W.cell? ⟨hb, 1, none⟩ = some (.slice (some ad) n c) ∧ W.cell? ⟨hb, 2, none⟩ = some (.int .i64 cur)) := by
    show ∀ W, _
    intro W hk
    have hb' := (HQ4.out.kept hk).box
    exact ⟨(hist_facts hb').1, (hist_facts hb').2.1, (hist_facts hb').2.2.1⟩
  have KFC : Hid (∀ W, Kept (fun _ => False) w4 W → ∀ o, (W.alloc o).cell? ⟨hb, 0, none⟩ = some (.int .i64 most) ∧ (W.alloc o).cell? ⟨hb, 1, none⟩ = some (.slice (some ad) n c) ∧ (W.alloc o).cell? ⟨hb, 2, none⟩ = some (.int .i64 cur)) := fun W hk o => KF.out _ (hk.alloc o)
  have KFD : Hid (∀ W, Kept (fun _ => False) w4 W → ∀ o v0 v1, (((W.alloc o).setCell ⟨W.heap.size, 0, none⟩ v0).setCell ⟨W.heap.size, 1, none⟩ v1).cell? ⟨hb, 0, none⟩ = some (.int .i64 most) ∧ (((W.alloc o).setCell ⟨W.heap.size, 0, none⟩ v0).setCell ⟨W.heap.size, 1, none⟩ v1).cell? ⟨hb, 1, none⟩ = some (.slice (some ad) n c) ∧ (((W.alloc o).setCell ⟨W.heap.size, 0, none⟩ v0).setCell ⟨W.heap.size, 1, none⟩ v1).cell? ⟨hb, 2, none⟩ = some (.int .i64 cur)) := fun W hk o v0 v1 => KF.out _ (fresh_tree hk o v0 v1)
  have KA := KF.out w4.drew (Kept.refl _ w4).drew
  have HD := Lib.hid (HQ4.out.kept (Kept.refl (fun _ => False) w4).drew)
  have KAC : Hid (∀ o, (w4.alloc o).drew.cell? ⟨hb, 0, none⟩ = some (.int .i64 most) ∧ (w4.alloc o).drew.cell? ⟨hb, 1, none⟩ = some (.slice (some ad) n c) ∧ (w4.alloc o).drew.cell? ⟨hb, 2, none⟩ = some (.int .i64 cur)) := fun o => KF.out _ (((Kept.refl (fun _ => False) w4).alloc o).drew)
  have HDC : Hid (∀ o, Hq most ad n c L cur mb hb s k kv ((w4.alloc o).drew)) := fun o => HQ4.out.kept (((Kept.refl (fun _ => False) w4).alloc o).drew)
  have HKA : Hid (∀ o, Kept (fun _ => False) w4 ((w4.alloc o).drew)) := fun o => ((Kept.refl (fun _ => False) w4).alloc o).drew
  have KFE : Hid (∀ o W, Kept (fun _ => False) ((w4.alloc o).drew) W → ∀ v0 v1, ((W.setCell ⟨w4.heap.size, 0, none⟩ v0).setCell ⟨w4.heap.size, 1, none⟩ v1).cell? ⟨hb, 0, none⟩ = some (.int .i64 most) ∧ ((W.setCell ⟨w4.heap.size, 0, none⟩ v0).setCell ⟨w4.heap.size, 1, none⟩ v1).cell? ⟨hb, 1, none⟩ = some (.slice (some ad) n c) ∧ ((W.setCell ⟨w4.heap.size, 0, none⟩ v0).setCell ⟨w4.heap.size, 1, none⟩ v1).cell? ⟨hb, 2, none⟩ = some (.int .i64 cur)) := fun o W hk v0 v1 => KF.out _ (((HKA.out o).trans hk).fresh (((Kept.refl (fun q => q = w4.heap.size) W).setCell (p := ⟨w4.heap.size, 0, none⟩) rfl v0).setCell (p := ⟨w4.heap.size, 1, none⟩) rfl v1) (fun q hq e => by omega))
  have KFO : Hid (∀ o W, Kept (fun _ => False) ((w4.alloc o).drew) W → W.heap[w4.heap.size]? = some o) := fun o W hk => (hk.block _ (heap_lt (w := (w4.alloc o).drew) (heap_alloc_new w4 o)) id).trans (heap_alloc_new w4 o)
  go_region_held3 (fun (W : World) => W.cell? ⟨hb, 0, none⟩ = some (.int .i64 most) ∧ W.cell? ⟨hb, 1, none⟩ = some (.slice (some ad) n c) ∧ W.cell? ⟨hb, 2, none⟩ = some (.int .i64 cur))
    (first | with_reducible exact KB | with_reducible exact KA | with_reducible exact KAC.out _ | with_reducible exact KC.out _ | with_reducible exact KD.out _ _ _ | with_reducible exact KE.out _ _ | fail)
    (first
      | (go_at_call 43; refine (HCC.out _ HD.out).mono ?_; rintro r w5 ⟨rfl, hk5⟩; have HK45 := Lib.hid ((Kept.refl (fun _ => False) w4).drew.trans hk5); have KB := KF.out w5 HK45.out; have KC := Lib.hid (KFC.out w5 HK45.out); have KD := Lib.hid (KFD.out w5 HK45.out); have HE := Lib.hid (fun o => (HK45.out.alloc o)); clear hk5)
      | (go_at_call 43; refine (HCC.out _ (HDC.out _)).mono ?_; rintro r w5 ⟨rfl, hk5⟩; have HK45 := Lib.hid ((HKA.out _).trans hk5); have KB := KF.out w5 HK45.out; have KE := Lib.hid (KFE.out _ w5 hk5); have HT5 := Lib.hid (KFO.out _ w5 hk5); obtain ⟨r0, r1, r2, r3⟩ := tree_facts HT5.out; clear hk5))
  all_goals
    go_wp2_with fail
    go_ret
    refine ⟨rfl, HK4.out.trans ?_⟩
    first
      | exact HE.out _
      | exact HK45.out.fresh (Kept.tree (g := w4.heap.size) (S := fun q => q = w4.heap.size) (Kept.refl (fun q => q = w4.heap.size) w5) rfl _ _) (fun q hq e => by omega)
end
end Go.Proofs.YthbfmdnibijapaaDoor
namespace Go.Proofs.YthbfmdnibijapaaDoor
open Go Go.RowKit

theorem way_fun {G : Int → Option (Int × PatS × PatS)} {f t : Int} {U D : List PatS} (h : Way G f t U D) : ∀ {U' D' : List PatS}, Way G f t U' D' → U' = U ∧ D' = D := by
  induction h with
  | done z =>
    intro U' D' h'
    cases h' with
    | done => exact ⟨rfl, rfl⟩
    | up h1 => omega
    | down h1 => omega
  | up h1 hg hq hr ih =>
    intro U' D' h'
    cases h' with
    | done => omega
    | up h2 hg2 hq2 hr2 =>
      rw [hg] at hg2
      simp only [Option.some.injEq, Prod.mk.injEq] at hg2
      obtain ⟨rfl, rfl, rfl⟩ := hg2
      obtain ⟨rfl, rfl⟩ := ih hr2
      exact ⟨rfl, rfl⟩
    | down h2 => omega
  | down h1 hg hq hr ih =>
    intro U' D' h'
    cases h' with
    | done => omega
    | up h2 => omega
    | down h2 hg2 hq2 hr2 =>
      rw [hg] at hg2
      simp only [Option.some.injEq, Prod.mk.injEq] at hg2
      obtain ⟨rfl, rfl, rfl⟩ := hg2
      obtain ⟨rfl, rfl⟩ := ih hr2
      exact ⟨rfl, rfl⟩
end Go.Proofs.YthbfmdnibijapaaDoor
