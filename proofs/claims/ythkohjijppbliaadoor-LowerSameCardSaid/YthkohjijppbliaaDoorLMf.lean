/-
  A PATCH BETWEEN TWO TEXTS, APPLIED, as bytes: where a rune stands among a text's bytes; pieces of a text.
  THE PROGRAM's Apply: where a rune stands, what stands ahead and behind, the pieces joined.
  THE PROGRAM's split AND Apply, of a patch that may be.
  PATCHES of whatever kind: what split and Apply tell.
-/
import Derived.Test.YthkohjijppbliaaDoorLMd
import Derived.Lib.IndexAny
import Derived.Lib.Strings
import Derived.Test.YthkohjijppbliaaDoorShelf2
import Derived.Shelf.Strings.Search3
import Derived.Shelf.Strings.OnBuilder
import Derived.BigQuiet
import Derived.Deep.RegionHeld3
import Derived.Deep.CutRange
import Derived.Laws.Rows
import Derived.Laws.ResultCell
set_option linter.unusedVariables false
namespace Go.Proofs.YthkohjijppbliaaDoor
open Go Go.RowKit
theorem pat_cells {w : World} {g : Nat} {a d : Int} {s : ByteArray} {fr : Nat × Nat} (h : w.heap[g]? = some (.cells #[.int .i64 a, .int .i64 d, .string s] 55 fr)) :
    w.cell? ⟨g, 0, none⟩ = some (.int .i64 a) ∧ w.cell? ⟨g, 1, none⟩ = some (.int .i64 d) ∧ w.cell? ⟨g, 2, none⟩ = some (.string s) :=
  ⟨cell_of_row w g 0 _ _ _ h, cell_of_row w g 1 _ _ _ h, cell_of_row w g 2 _ _ _ h⟩
abbrev patO (a d : Int) (s : ByteArray) : Obj := .cells #[.int .i64 a, .int .i64 d, .string s] 55
abbrev patV (a d : Int) (s : ByteArray) : Value := .agg #[.int .i64 a, .int .i64 d, .string s]

/-- How many bytes the first runes have. -/
def bpos (t : List Int) (j : Nat) : Nat := (Utf.bytes (t.take j)).length
theorem bytes_split (t : List Int) (j : Nat) : Utf.bytes t = Utf.bytes (t.take j) ++ Utf.bytes (t.drop j) := by
  rw [← Utf.bytes_append, List.take_append_drop]
theorem bpos_drop (t : List Int) (j : Nat) : (runesBytes t).data.toList.drop (bpos t j) = Utf.bytes (t.drop j) := by
  rw [txt_list, bytes_split t j]
  unfold bpos
  rw [List.drop_left]
theorem bpos_take (t : List Int) (j : Nat) : (runesBytes t).data.toList.take (bpos t j) = Utf.bytes (t.take j) := by
  rw [txt_list, bytes_split t j]
  unfold bpos
  rw [List.take_left]
theorem bpos_le (t : List Int) (j : Nat) : bpos t j ≤ (runesBytes t).size := by
  rw [txt_size]
  have := congrArg List.length (bytes_split t j)
  rw [List.length_append] at this
  unfold bpos
  omega
theorem bpos_all {t : List Int} {j : Nat} (h : t.length ≤ j) : bpos t j = (runesBytes t).size := by
  unfold bpos
  rw [txt_size, List.take_of_length_le h]
theorem bpos_zero (t : List Int) : bpos t 0 = 0 := rfl
theorem take_succ' {t : List Int} {j : Nat} {x : Int} (h : t[j]? = some x) : t.take (j + 1) = t.take j ++ [x] := by
  rw [List.take_add_one, h]
  rfl
theorem bpos_step {t : List Int} {j : Nat} {x : Int} (h : t[j]? = some x) : bpos t (j + 1) = bpos t j + (Utf.enc x).length := by
  unfold bpos
  rw [take_succ' h, Utf.bytes_append, List.length_append]
  simp [Utf.bytes]
theorem bpos_decode {t : List Int} {j : Nat} {x : Int} (hv : Vld t) (h : t[j]? = some x) : (Utf8.decode (runesBytes t) (bpos t j)).2 = (Utf.enc x).length := by
  have e := Lib.decodeL_drop (runesBytes t) (bpos t j)
  rw [bpos_drop, Rw.drop_cons h] at e
  have e2 := Utf.decodeL_enc x (hv x (List.mem_of_getElem? h)) (Utf.bytes (t.drop (j + 1)))
  have e3 : Utf.bytes (x :: t.drop (j + 1)) = Utf.enc x ++ Utf.bytes (t.drop (j + 1)) := rfl
  rw [e3, e2] at e
  rw [← e]
theorem bpos_lt {t : List Int} {j : Nat} (h : j < t.length) : bpos t j < (runesBytes t).size := by
  obtain ⟨x, hx⟩ : ∃ x, t[j]? = some x := ⟨_, List.getElem?_eq_getElem h⟩
  have h1 := bpos_step hx
  have h2 := bpos_le t (j + 1)
  have h3 := (Utf.enc_length x).1
  omega
theorem ext_mid (s : ByteArray) (x y : Nat) : (s.extract x (x + y)).data.toList = (s.data.toList.drop x).take y := by
  have := Lib.extract_toList s x (x + y)
  rw [ByteArray.toList_eq, Nat.add_sub_cancel_left] at this
  exact this
/-- The three pieces. -/
theorem piece_low {t : List Int} {a : Nat} : (runesBytes t).extract 0 (bpos t a) = runesBytes (t.take a) := by
  apply ba_ext
  rw [txt_list, ← bpos_take]
  simp
theorem piece_high {t : List Int} {a : Nat} : (runesBytes t).extract (bpos t a) (runesBytes t).size = runesBytes (t.drop a) := by
  apply ba_ext
  rw [txt_list, ← bpos_drop]
  exact Lib.extract_to_end _ _
theorem bpos_add (t : List Int) (a d : Nat) : bpos t (a + d) = bpos t a + bpos (t.drop a) d := by
  unfold bpos
  rw [List.take_add, Utf.bytes_append, List.length_append]
theorem piece_mid {t : List Int} {a d : Nat} : (runesBytes t).extract (bpos t a) (bpos t (a + d)) = runesBytes ((t.drop a).take d) := by
  apply ba_ext
  rw [bpos_add, ext_mid, bpos_drop, ← txt_list (t.drop a), bpos_take, txt_list]
end Go.Proofs.YthkohjijppbliaaDoor
namespace Go.Proofs.YthkohjijppbliaaDoor
open Go Go.RowKit

set_option maxRecDepth 100000 in
theorem pbyteOf_yes (t : List Int) (k : Nat) (w : World) (hv : Vld t) (hsz : (runesBytes t).size ≤ 4000) (hk : k ≤ t.length) :
    Calls Tryd.prog 120 #[.string (runesBytes t), .int .i64 k] w fun e w' => e = .returned (.int .i64 (bpos t k)) ∧ Kept (fun _ => False) w w' := by
  have hlt := fun j (h : j < t.length) => bpos_lt (t := t) (j := j) h
  have hst := fun j x (h : t[j]? = some x) => (bpos_step h).trans (by rw [← bpos_decode hv h])
  have hlen : k ≤ 4000 := by
    have h1 : ∀ l : List Int, l.length ≤ (Utf.bytes l).length := fun l => by
      induction l with
      | nil => exact Nat.le_refl _
      | cons c l ih => show _ ≤ (Utf.enc c ++ Utf.bytes l).length; have := (Utf.enc_length c).1; rw [List.length_append, List.length_cons]; omega
    have := h1 t
    rw [txt_size] at hsz
    omega
  have hall := fun (h : t.length ≤ k) => bpos_all h
  have HLT := Lib.hid hlt
  have HST := Lib.hid hst
  have HALL := Lib.hid hall
  have hz0 := bpos_zero t
  have HZ0 := Lib.hid hz0
  obtain ⟨BP, hBP⟩ : ∃ BP, bpos t = BP := ⟨_, rfl⟩
  simp only [hBP] at HLT HST HALL HZ0 ⊢
  clear hlt hst hall hz0 hBP hv
  generalize runesBytes t = s at *
  have HI0 : Hid ((w.alloc (.stringIter s 0)).heap[w.heap.size]? = some (.stringIter s 0)) := heap_alloc_new w _
  have HK0 : Hid (Kept (fun _ => False) w (w.alloc (.stringIter s 0))) := (Kept.refl _ w).alloc _
  go_enter Tryd.func120, Tryd.ntmps120
  go_wp2
  unfold World.iter
  generalize w.alloc (.stringIter s 0) = W at *
  obtain ⟨gi, hgi⟩ : ∃ gi, w.heap.size = gi := ⟨_, rfl⟩
  have HGI := Lib.hid hgi
  simp only [hgi] at HI0 ⊢
  clear hgi
  go_loopw [1] (fun v wr => ∃ j m : Nat, j + m = k ∧ v = .int .i64 m ∧ wr.heap[gi]? = some (.stringIter s (BP j)) ∧ Kept (fun _ => False) w wr) (fun _ wr => s.size - wr.iterPos gi)
  case atStart => exact ⟨0, k, by omega, rfl, by rw [HZ0.out]; exact HI0.out, HK0.out⟩
  case round =>
    obtain ⟨j, m, hjm, rfl, hi, hkw⟩ := hrel
    have hpos := iterPos_at hi
    have HKW := Lib.hid hkw
    have HI := Lib.hid hi
    have HPOS := Lib.hid hpos
    clear hkw hi hpos
    by_cases hps : j < t.length
    · obtain ⟨x, hx⟩ : ∃ x, t[j]? = some x := ⟨_, List.getElem?_eq_getElem hps⟩
      have hp := HLT.out j hps
      have hs2 := HST.out j x hx
      have hnx : ∀ ty, (Instr.next (.pointer (some ⟨gi, 0, none⟩)) true ty).run Tryd.prog wr = _ := fun ty => run_next_at wr gi s (BP j) ty HI.out hp
      have hwd := Lib.decode_width_pos s (BP j) hp
      have HI2 := Lib.hid (iter_same (s := s) (pos := BP j + (Utf8.decode s (BP j)).2) HI.out)
      have HK2 : Hid (Kept (fun _ => False) w (setIter wr gi s (BP j + (Utf8.decode s (BP j)).2))) := HKW.out.fresh (Kept.iter wr gi s _) (fun b hb e => by have := HGI.out; omega)
      have HP2 := Lib.hid (iterPos_at HI2.out)
      have HS2 := Lib.hid hs2
      clear hs2 hx
      generalize (Utf8.decode s (BP j)).2 = wd at *
      generalize setIter wr gi s (BP j + wd) = W2 at *
      by_cases hm0 : m = 0
      · subst hm0
        obtain rfl : j = k := by omega
        go_wp2
        go_ret
        exact ⟨rfl, HK2.out⟩
      · obtain ⟨m', rfl⟩ : ∃ m', m = m' + 1 := ⟨m - 1, by omega⟩
        have e1 : (((m' + 1 : Nat) : Int) == 0) = false := by rw [beq_eq_false_iff_ne]; omega
        go_wp2
        go_roundw
        case rel => exact ⟨j + 1, m', by omega, by go_num, by rw [HS2.out]; exact HI2.out, HK2.out⟩
        case measure => rw [HP2.out, HPOS.out]; omega
    · have hjk : j = k := by omega
      have hm0 : m = 0 := by omega
      subst hm0
      have hend : BP j = s.size := by rw [hjk]; exact HALL.out (by omega)
      have hnx : ∀ ty, (Instr.next (.pointer (some ⟨gi, 0, none⟩)) true ty).run Tryd.prog wr = _ := fun ty => run_next_done wr gi s (BP j) ty HI.out (by omega)
      have hfin : Hid (BP k = s.size) := by show _ = _; rw [← hjk]; exact hend
      clear hps hend hjk
      go_wp2
      go_ret
      exact ⟨by rw [hfin.out]; rfl, HKW.out⟩
set_option maxRecDepth 100000 in
theorem plen_yes (s : ByteArray) (w : World) (hT : Tabs w) (hm : mayB s = true) :
    Calls Tryd.prog 118 #[.string s] w fun e w' => e = .returned (.tuple #[.int .i64 (rs s).length, .int .i64 0]) ∧ Kept (fun _ => False) w w' := by
  have hsz := mayB_size hm
  have cC := check_any s w (by omega) hT
  rw [hm] at cC
  have cN := fun W => rcount_any s W (by omega)
  clear hT hm
  go_enter Tryd.func118, Tryd.ntmps118
  go_wp2_with (first
    | (go_at_call 102; refine cC.mono ?_; rintro e w1 ⟨rfl, hk1⟩)
    | (go_at_call 49; refine (cN _).mono ?_; rintro e w2 ⟨rfl, hk2⟩))
  exact bodyPost_ret (v := .tuple #[.int .i64 (rs s).length, .int .i64 0]) (by simp [results, Tryd.results118, go_sem]) rfl ⟨rfl, hk1.trans hk2⟩
theorem pcontains_no (s : ByteArray) (w : World) (h : ∀ b ∈ s.data.toList, b ≠ 0) : Calls Tryd.prog 119 #[.string s, .string ⟨#[0]⟩] w fun e w' => e = .returned (.bool false) ∧ w' = w := by
  have c := Any.strings_Contains_one Tryd.lays144 s 0 w
  rw [← Lib.contains_iff_indexByte, show s.data.toList.contains 0 = false by
    rw [List.contains_eq_mem]
    simp only [decide_eq_false_iff_not]
    exact fun hm => h 0 hm rfl] at c
  exact c
theorem extraB' : Builder.Extra Tryd.prog Tryd.lays156_ren where
  sizeBuilder := by kernel_rfl
  liesBuilder := by kernel_rfl
  t5 := by kernel_rfl
  a5 := Tryd.isAgg5
  z5 := Tryd.sizeOf5
  v5 := Tryd.zeroValue5
  infoByte := by kernel_rfl
  cellsByte := by kernel_rfl
  sizeByte := by kernel_rfl
  neB5 := by decide
theorem join3_any (x y z : List Int) (w : World) (hl : (runesBytes (x ++ y ++ z)).size ≤ 1000000) :
    Calls Tryd.prog 105 #[.slice (some ⟨w.heap.size, 0, none⟩) 3 3, .string ⟨#[]⟩] (w.alloc (.cells #[.string (runesBytes x), .string (runesBytes y), .string (runesBytes z)] 9)) fun e w' => e = .returned (.string (runesBytes (x ++ y ++ z))) ∧ Kept (fun _ => False) w w' := by
  have hj : (Lib.join ([runesBytes x, runesBytes y, runesBytes z].map (·.data.toList)) (⟨#[]⟩ : ByteArray).data.toList) = Utf.bytes (x ++ y ++ z) := by
    rw [Utf.bytes_append, Utf.bytes_append]
    simp [Lib.join, List.intercalate, txt_list]
  have hH := heap_alloc_new w (.cells #[.string (runesBytes x), .string (runesBytes y), .string (runesBytes z)] 9)
  have hc : ∀ (j : Nat) u, [runesBytes x, runesBytes y, runesBytes z][j]? = some u → (w.alloc (.cells #[.string (runesBytes x), .string (runesBytes y), .string (runesBytes z)] 9)).cell? ⟨w.heap.size, 0 + j, none⟩ = some (.string u) := by
    intro j u hj
    rw [Nat.zero_add, cell_of_row _ _ _ _ _ _ hH]
    match j, hj with
    | 0, hj => injection hj with hj; subst hj; rfl
    | 1, hj => injection hj with hj; subst hj; rfl
    | 2, hj => injection hj with hj; subst hj; rfl
    | _ + 3, hj => cases hj
  have h := Any.strings_Join Tryd.lays156 extraB' w.heap.size 0 3 [runesBytes x, runesBytes y, runesBytes z] ⟨#[]⟩ (w.alloc (.cells #[.string (runesBytes x), .string (runesBytes y), .string (runesBytes z)] 9)) hc (heap_lt hH) (by show 3 ≤ 140737488355328; decide) (by show 3 ≤ 3; decide) (by
    rw [hj, ← txt_size]
    omega)
  rw [hj, ← txt_list, show (⟨((runesBytes (x ++ y ++ z)).data.toList).toArray⟩ : ByteArray) = runesBytes (x ++ y ++ z) from rfl] at h
  exact h.mono fun e w' ⟨he, hk⟩ => ⟨he, ((Kept.refl _ w).alloc _).trans (Kept.of_below hk)⟩
end Go.Proofs.YthkohjijppbliaaDoor
namespace Go.Proofs.YthkohjijppbliaaDoor
open Go Go.RowKit

set_option maxRecDepth 100000 in
set_option maxHeartbeats 2000000 in
theorem psplit_yes (t x : List Int) (a d : Nat) (w : World) (hT : Tabs w) (hv : Vld t) (hm : mayB (runesBytes t) = true) (had : a + d ≤ t.length) (hvx : Vld x) (h0 : (0 : Int) ∉ x) (hxl : (runesBytes x).size ≤ 100000) :
    Calls Tryd.prog 104 #[.string (runesBytes t), patV a d (runesBytes x)] w fun e w' => e = .returned (.tuple #[.string (runesBytes (t.take a)), .string (runesBytes ((t.drop a).take d)), .string (runesBytes (t.drop (a + d))), .int .i64 0]) ∧ Kept (fun _ => False) w w' := by
  have hsz := mayB_size hm
  have hlen : t.length ≤ 4000 := by
    have h1 := rs_len (runesBytes t)
    rw [rs_txt hv] at h1
    omega
  have hka : Kept (fun _ => False) w (w.alloc (patO a d (runesBytes x))) := (Kept.refl _ w).alloc _
  have HG : Hid ((w.alloc (patO a d (runesBytes x))).heap[w.heap.size]? = some (patO a d (runesBytes x))) := heap_alloc_new w _
  have cL := plen_yes (runesBytes t) (w.alloc (patO a d (runesBytes x))) (hT.kept hka id id) hm
  rw [rs_txt hv] at cL
  have cV := fun W hW => valid_any (runesBytes x) W (by omega) hW
  have hval : Lib.validD (runesBytes x).data.toList = true := by rw [txt_list]; exact Utf.valid_bytes x hvx
  rw [hval] at cV
  have cZ := fun W => pcontains_no (runesBytes x) W (by rw [txt_list]; exact bytes_zero hvx h0)
  have cA := fun W => pbyteOf_yes t a W hv hsz (by omega)
  have hvd : Vld (t.drop a) := hv.sub fun r hr => List.mem_of_mem_drop hr
  have hszd : (runesBytes (t.drop a)).size ≤ 4000 := by
    rw [txt_size] at hsz ⊢
    have := bytes_sub (List.drop_sublist a t)
    omega
  have cD := fun W => pbyteOf_yes (t.drop a) d W hvd hszd (by rw [List.length_drop]; omega)
  have hb1 := bpos_le t a
  have hb2 := bpos_le t (a + d)
  have hb3 := bpos_add t a d
  have p1 := piece_low (t := t) (a := a)
  have p2 := piece_high (t := t) (a := a)
  have p3 := piece_mid (t := t) (a := a) (d := d)
  have p4 := piece_high (t := t) (a := a + d)
  generalize bpos t a = L at *
  generalize bpos t (a + d) = R at *
  generalize bpos (t.drop a) d = D at *
  generalize runesBytes (t.drop (a + d)) = S3 at *
  generalize runesBytes ((t.drop a).take d) = S2 at *
  generalize runesBytes (t.drop a) = SD at *
  generalize runesBytes (t.take a) = S1 at *
  generalize runesBytes t = s at *
  generalize runesBytes x = PX at *
  have s1 : ∀ u : World, (Instr.slice 9 (.string s) (some (.int .i64 (L : Nat))) none none).run Tryd.prog u = .ok (.string SD) u := fun u => by
    rw [run_slice_string_l (P := Tryd.prog) u 9 s Tryd.underlying9 .i64 (L : Nat) (by omega) (by omega), Int.toNat_natCast, p2]
  have s2 : ∀ u : World, (Instr.slice 9 (.string s) none (some (.int .i64 (L : Nat))) none).run Tryd.prog u = .ok (.string S1) u := fun u => by
    rw [run_slice_string_h (P := Tryd.prog) u 9 s Tryd.underlying9 .i64 (L : Nat) (by omega) (by omega), Int.toNat_natCast, p1]
  have s3 : ∀ u : World, (Instr.slice 9 (.string s) (some (.int .i64 (L : Nat))) (some (.int .i64 ((L : Int) + (D : Int)))) none).run Tryd.prog u = .ok (.string S2) u := fun u => by
    rw [run_slice_string (P := Tryd.prog) u 9 s .i64 .i64 (L : Nat) ((L : Int) + (D : Int)) Tryd.underlying9 (by omega) (by omega) (by omega), Int.toNat_natCast, show ((L : Int) + (D : Int)).toNat = R by omega, p3]
  have s4 : ∀ u : World, (Instr.slice 9 (.string s) (some (.int .i64 ((L : Int) + (D : Int)))) none none).run Tryd.prog u = .ok (.string S3) u := fun u => by
    rw [run_slice_string_l (P := Tryd.prog) u 9 s Tryd.underlying9 .i64 ((L : Int) + (D : Int)) (by omega) (by omega), show ((L : Int) + (D : Int)).toNat = R by omega, p4]
  have HT0 := Lib.hid (hT.kept hka id id)
  have HKA := Lib.hid hka
  have HV := Lib.hid cV
  have HZ := Lib.hid cZ
  have HA := Lib.hid cA
  have HD := Lib.hid cD
  clear hT hm hka cV cZ cA cD p1 p2 p3 p4 hv hvd hvx h0 hval
  generalize t.length = n at *
  obtain ⟨g, hg⟩ : ∃ g, w.heap.size = g := ⟨_, rfl⟩
  have e1 : decide ((a : Int) < 0) = false := decide_eq_false (by omega)
  have e2 : decide ((n : Int) < (a : Int)) = false := decide_eq_false (by omega)
  have e2' : decide (n < a) = false := decide_eq_false (by omega)
  have e3 : decide ((d : Int) < 0) = false := decide_eq_false (by omega)
  have e4 : decide ((n : Int) - (a : Int) < (d : Int)) = false := decide_eq_false (by omega)
  have hw1 : IntKind.i64.wrap ((n : Int) - (a : Int)) = (n : Int) - (a : Int) := IntWalk.i64_in _ ⟨by omega, by omega⟩
  have hw2 : IntKind.i64.wrap ((L : Int) + (D : Int)) = (L : Int) + (D : Int) := IntWalk.i64_in _ ⟨by omega, by omega⟩
  go_enter Tryd.func104, Tryd.ntmps104
  go_wp2_with fail
  simp only [hg] at HG ⊢
  generalize w.alloc (patO a d PX) = wa at *
  refine cL.mono ?_
  rintro e w1 ⟨rfl, hk1⟩
  have HK1 := Lib.hid (HKA.out.trans hk1)
  have HT1 := Lib.hid (HT0.out.kept hk1 id id)
  have HG1 := Lib.hid ((hk1.block g (heap_lt HG.out) id).trans HG.out)
  clear hk1 cL
  obtain ⟨q0, q1, q2⟩ := pat_cells HG1.out
  go_wp2_with fail
  refine (HV.out w1 HT1.out).mono ?_
  rintro e w2 ⟨rfl, hk2⟩
  have HK2 := Lib.hid (HK1.out.trans hk2)
  have HG2 := Lib.hid ((hk2.block g (heap_lt HG1.out) id).trans HG1.out)
  clear hk2 q0 q1 q2
  obtain ⟨q0, q1, q2⟩ := pat_cells HG2.out
  go_wp2_with (go_at_call 119; refine (HZ.out _).mono ?_; rintro e w' ⟨rfl, hw⟩; have hwx := hw.symm; subst hwx)
  refine (HA.out _).mono ?_
  rintro e w3 ⟨rfl, hk3⟩
  have HK3 := Lib.hid (HK2.out.trans hk3)
  have HG3 := Lib.hid ((hk3.block g (heap_lt HG2.out) id).trans HG2.out)
  clear hk3 q0 q1 q2
  obtain ⟨q0, q1, q2⟩ := pat_cells HG3.out
  go_upto_region 9 with fail
  have K1 : w3.drew.cell? ⟨g, 1, none⟩ = some (.int .i64 d) := q1
  go_cut [10] from 55 to 62 (fun v wx => v = .int .i64 ((L : Int) + (D : Int)) ∧ Kept (fun _ => False) w3 wx)
  case first =>
    go_region_held3 (fun (w' : World) => w'.cell? ⟨g, 1, none⟩ = some (.int .i64 d)) (first | with_reducible exact K2 | with_reducible exact K1)
      ((go_at_call 120; refine (HD.out _).mono ?_; rintro e w4 ⟨rfl, hk4⟩; have K2 : w4.cell? ⟨g, 1, none⟩ = some (.int .i64 d) := cell_kept hk4 K1 id))
    all_goals
      go_wp2_with fail
      go_meet
      exact ⟨rfl, (Kept.refl (fun _ => False) w3).drew.trans hk4⟩
  case rest =>
    obtain ⟨rfl, hk4⟩ := hcut
    have HK4 := Lib.hid (HK3.out.trans hk4)
    clear hk4 K1 q0 q1 q2
    go_upto_region 10 with fail
    go_quiet (fail)
    go_wp2
    exact bodyPost_ret (v := .tuple #[.string S1, .string S2, .string S3, .int .i64 0]) (by simp [results, Tryd.results104, go_sem]) rfl ⟨rfl, HK4.out.drewN _⟩
set_option maxRecDepth 100000 in
set_option maxHeartbeats 2000000 in
theorem papply_yes (t x : List Int) (a d : Nat) (w : World) (hT : Tabs w) (hv : Vld t) (hm : mayB (runesBytes t) = true) (had : a + d ≤ t.length) (hvx : Vld x) (h0 : (0 : Int) ∉ x) (hr : (runesBytes (t.take a ++ x ++ t.drop (a + d))).size ≤ 4000) :
    Calls Tryd.prog 76 #[.string (runesBytes t), patV a d (runesBytes x)] w fun e w' => e = .returned (.tuple #[.string (runesBytes (t.take a ++ x ++ t.drop (a + d))), .int .i64 0]) ∧ Kept (fun _ => False) w w' := by
  have hsz := mayB_size hm
  have hka : Kept (fun _ => False) w (w.alloc (patO a d (runesBytes x))) := (Kept.refl _ w).alloc _
  have HG : Hid ((w.alloc (patO a d (runesBytes x))).heap[w.heap.size]? = some (patO a d (runesBytes x))) := heap_alloc_new w _
  have hlx : (runesBytes x).size ≤ 4000 := by
    rw [txt_size] at hr ⊢
    rw [Utf.bytes_append, Utf.bytes_append, List.length_append, List.length_append] at hr
    omega
  have hle : (runesBytes x).size + (runesBytes t).size ≤ 4000 + (runesBytes ((t.drop a).take d)).size := by
    have e := congrArg (fun l => (Utf.bytes l).length) (show t = t.take a ++ (t.drop a).take d ++ t.drop (a + d) by
      rw [List.append_assoc, ← List.drop_drop, List.take_append_drop, List.take_append_drop])
    simp only [Utf.bytes_append, List.length_append] at e
    rw [txt_size] at hr
    rw [Utf.bytes_append, Utf.bytes_append, List.length_append, List.length_append] at hr
    rw [txt_size, txt_size, txt_size, e]
    omega
  have hlg : (runesBytes ((t.drop a).take d)).size ≤ 4000 := by
    rw [txt_size] at hsz ⊢
    have := bytes_sub (((List.take_sublist d (t.drop a)).trans (List.drop_sublist a t)))
    omega
  have cS := psplit_yes t x a d (w.alloc (patO a d (runesBytes x))) (hT.kept hka id id) hv hm had hvx h0 (by omega)
  have cJ := fun W => join3_any (t.take a) x (t.drop (a + d)) W (by omega)
  generalize runesBytes (t.take a ++ x ++ t.drop (a + d)) = RES at *
  generalize runesBytes (t.drop (a + d)) = S3 at *
  generalize runesBytes ((t.drop a).take d) = S2 at *
  generalize runesBytes (t.take a) = S1 at *
  generalize runesBytes t = s at *
  generalize runesBytes x = PX at *
  have HKA := Lib.hid hka
  have HJ := Lib.hid cJ
  clear hT hka hm hv hvx h0 cJ
  obtain ⟨g, hg⟩ : ∃ g, w.heap.size = g := ⟨_, rfl⟩
  have hw1 : IntKind.i64.wrap (4000 - (s.size : Int)) = 4000 - (s.size : Int) := IntWalk.i64_in _ ⟨by omega, by omega⟩
  have hw2 : IntKind.i64.wrap (4000 - (s.size : Int) + (S2.size : Int)) = 4000 - (s.size : Int) + (S2.size : Int) := IntWalk.i64_in _ ⟨by omega, by omega⟩
  have e1 : decide (4000 - (s.size : Int) + (S2.size : Int) < (PX.size : Int)) = false := decide_eq_false (by omega)
  go_enter Tryd.func76, Tryd.ntmps76
  go_wp2_with fail
  simp only [hg] at HG ⊢
  generalize w.alloc (patO a d PX) = wa at *
  refine cS.mono ?_
  rintro e w1 ⟨rfl, hk1⟩
  have HK1 := Lib.hid (HKA.out.trans hk1)
  have HG1 := Lib.hid ((hk1.block g (heap_lt HG.out) id).trans HG.out)
  clear hk1 cS
  obtain ⟨q0, q1, q2⟩ := pat_cells HG1.out
  go_wp2_with (go_at_call 105; refine (HJ.out _).mono ?_; rintro e w2 ⟨rfl, hk2⟩)
  exact bodyPost_ret (v := .tuple #[.string RES, .int .i64 0]) (by simp [results, Tryd.results76, go_sem]) rfl ⟨rfl, HK1.out.trans hk2⟩
end Go.Proofs.YthkohjijppbliaaDoor
namespace Go.Proofs.YthkohjijppbliaaDoor
open Go Go.RowKit

theorem pcontains_any (s : ByteArray) (w : World) : Calls Tryd.prog 119 #[.string s, .string ⟨#[0]⟩] w fun e w' => e = .returned (.bool (s.data.toList.contains 0)) ∧ w' = w := by
  have c := Any.strings_Contains_one Tryd.lays144 s 0 w
  rw [← Lib.contains_iff_indexByte] at c
  exact c
/-- A patch of a text that may be. -/
structure POk (s PX : ByteArray) (a d : Int) : Prop where
  may : mayB s = true
  a0 : 0 ≤ a
  an : a ≤ ((rs s).length : Int)
  d0 : 0 ≤ d
  dn : d ≤ ((rs s).length : Int) - a
  val : Lib.validD PX.data.toList = true
  nz : PX.data.toList.contains 0 = false
theorem pok_cases {s PX : ByteArray} {a d : Int} (h : ¬ POk s PX a d) : mayB s = false ∨ mayB s = true ∧ (a < 0 ∨ 0 ≤ a ∧ (((rs s).length : Int) < a ∨ a ≤ ((rs s).length : Int) ∧ (d < 0 ∨ 0 ≤ d ∧ (((rs s).length : Int) - a < d ∨ d ≤ ((rs s).length : Int) - a ∧ (Lib.validD PX.data.toList = false ∨ Lib.validD PX.data.toList = true ∧ PX.data.toList.contains 0 = true))))) := by
  cases h1 : mayB s with
  | false => exact .inl rfl
  | true =>
    refine .inr ⟨rfl, ?_⟩
    by_cases h2 : a < 0
    · exact .inl h2
    · refine .inr ⟨by omega, ?_⟩
      by_cases h3 : ((rs s).length : Int) < a
      · exact .inl h3
      · refine .inr ⟨by omega, ?_⟩
        by_cases h4 : d < 0
        · exact .inl h4
        · refine .inr ⟨by omega, ?_⟩
          by_cases h5 : ((rs s).length : Int) - a < d
          · exact .inl h5
          · refine .inr ⟨by omega, ?_⟩
            cases h6 : Lib.validD PX.data.toList with
            | false => exact .inl rfl
            | true =>
              refine .inr ⟨rfl, ?_⟩
              cases h7 : PX.data.toList.contains 0 with
              | true => rfl
              | false => exact absurd ⟨h1, by omega, by omega, by omega, by omega, h6, h7⟩ h
theorem pn_len (s : ByteArray) (w : World) (hT : Tabs w) (hm : mayB s = false) (hs : s.size ≤ 140737488351232) :
    Calls Tryd.prog 118 #[.string s] w fun e w' => e = .returned (.tuple #[.int .i64 0, .int .i64 1]) ∧ Kept (fun _ => False) w w' := by
  have c := plen_any s w hs hT
  rw [hm, if_neg (by decide)] at c
  exact c
set_option maxRecDepth 100000 in
set_option maxHeartbeats 4000000 in
theorem psplit_bad (s PX : ByteArray) (a d : Int) (w : World) (hT : Tabs w) (hs : s.size ≤ 100000) (hP : PX.size ≤ 100000) (ha : I64 a) (hd : I64 d) (hno : ¬ POk s PX a d) :
    Calls Tryd.prog 104 #[.string s, patV a d PX] w fun e w' => e = .returned (.tuple #[.string ⟨#[]⟩, .string ⟨#[]⟩, .string ⟨#[]⟩, .int .i64 1]) ∧ Kept (fun _ => False) w w' := by
  have hno := pok_cases hno
  have hka : Kept (fun _ => False) w (w.alloc (patO a d PX)) := (Kept.refl _ w).alloc _
  have HG : Hid ((w.alloc (patO a d PX)).heap[w.heap.size]? = some (patO a d PX)) := heap_alloc_new w _
  have HT0 := Lib.hid (hT.kept hka id id)
  have HKA := Lib.hid hka
  have hlen : (rs s).length ≤ 100000 := by
    have := rs_len s
    omega
  have cV := fun W hW => valid_any PX W (by omega) hW
  have cZ := fun W => pcontains_any PX W
  have HV := Lib.hid cV
  have HZ := Lib.hid cZ
  obtain ⟨g, hg⟩ : ∃ g, w.heap.size = g := ⟨_, rfl⟩
  rcases hno with hm | ⟨hm, hno⟩
  · have cN := fun W (hW : Tabs W) => pn_len s W hW hm (by omega)
    clear cV cZ hT hka hm
    go_enter Tryd.func104, Tryd.ntmps104
    go_wp2_with fail
    simp only [hg] at HG ⊢
    generalize w.alloc (patO a d PX) = wa at *
    refine (cN wa HT0.out).mono ?_
    rintro e w1 ⟨rfl, hk1⟩
    have HK1 := Lib.hid (HKA.out.trans hk1)
    clear hk1 cN
    go_wp2_with fail
    exact bodyPost_ret (v := .tuple #[.string ⟨#[]⟩, .string ⟨#[]⟩, .string ⟨#[]⟩, .int .i64 1]) (by simp [results, Tryd.results104, go_sem]) rfl ⟨rfl, HK1.out⟩
  · have cN := fun W (hW : Tabs W) => plen_yes s W hW hm
    clear cV cZ hT hka hm
    generalize (rs s).length = n at *
    have hw1 : 0 ≤ a → a ≤ (n : Int) → IntKind.i64.wrap ((n : Int) - a) = (n : Int) - a := fun h1 h2 => IntWalk.i64_in _ ⟨by omega, by omega⟩
    go_enter Tryd.func104, Tryd.ntmps104
    go_wp2_with fail
    simp only [hg] at HG ⊢
    generalize w.alloc (patO a d PX) = wa at *
    refine (cN wa HT0.out).mono ?_
    rintro e w1 ⟨rfl, hk1⟩
    have HK1 := Lib.hid (HKA.out.trans hk1)
    have HT1 := Lib.hid (HT0.out.kept hk1 id id)
    have HG1 := Lib.hid ((hk1.block g (heap_lt HG.out) id).trans HG.out)
    clear hk1 cN
    obtain ⟨q0, q1, q2⟩ := pat_cells HG1.out
    rcases hno with h | ⟨h0, hno⟩
    · have e1 : decide (a < 0) = true := decide_eq_true h
      clear h hw1
      go_wp2_with fail
      exact bodyPost_ret (v := .tuple #[.string ⟨#[]⟩, .string ⟨#[]⟩, .string ⟨#[]⟩, .int .i64 1]) (by simp [results, Tryd.results104, go_sem]) rfl ⟨rfl, HK1.out⟩
    · have e1 : decide (a < 0) = false := decide_eq_false (by omega)
      rcases hno with h | ⟨h1, hno⟩
      · have e2 : decide ((n : Int) < a) = true := decide_eq_true h
        have e2' : decide (a > (n : Int)) = true := decide_eq_true h
        clear h hw1 h0
        go_wp2_with fail
        exact bodyPost_ret (v := .tuple #[.string ⟨#[]⟩, .string ⟨#[]⟩, .string ⟨#[]⟩, .int .i64 1]) (by simp [results, Tryd.results104, go_sem]) rfl ⟨rfl, HK1.out⟩
      · have e2 : decide ((n : Int) < a) = false := decide_eq_false (by omega)
        have e2' : decide (a > (n : Int)) = false := decide_eq_false (by omega)
        have hw := hw1 h0 h1
        clear hw1
        rcases hno with h | ⟨h2, hno⟩
        · have e3 : decide (d < 0) = true := decide_eq_true h
          clear h h0 h1
          go_wp2_with fail
          exact bodyPost_ret (v := .tuple #[.string ⟨#[]⟩, .string ⟨#[]⟩, .string ⟨#[]⟩, .int .i64 1]) (by simp [results, Tryd.results104, go_sem]) rfl ⟨rfl, HK1.out⟩
        · have e3 : decide (d < 0) = false := decide_eq_false (by omega)
          rcases hno with h | ⟨h3, hno⟩
          · have e4 : decide ((n : Int) - a < d) = true := decide_eq_true h
            clear h h0 h1 h2
            go_wp2_with fail
            exact bodyPost_ret (v := .tuple #[.string ⟨#[]⟩, .string ⟨#[]⟩, .string ⟨#[]⟩, .int .i64 1]) (by simp [results, Tryd.results104, go_sem]) rfl ⟨rfl, HK1.out⟩
          · have e4 : decide ((n : Int) - a < d) = false := decide_eq_false (by omega)
            clear h0 h1 h2 h3
            rcases hno with h | ⟨h4, h5⟩
            · have cV1 := HV.out w1 HT1.out
              rw [h] at cV1
              clear h
              go_wp2_with (go_at_call 116; refine cV1.mono ?_; rintro e w2 ⟨rfl, hk2⟩; have HK2 := Lib.hid (HK1.out.trans hk2); clear hk2 cV1)
              exact bodyPost_ret (v := .tuple #[.string ⟨#[]⟩, .string ⟨#[]⟩, .string ⟨#[]⟩, .int .i64 1]) (by simp [results, Tryd.results104, go_sem]) rfl ⟨rfl, HK2.out⟩
            · have cV1 := HV.out w1 HT1.out
              rw [h4] at cV1
              have cZ1 := HZ.out
              rw [h5] at cZ1
              clear h4 h5
              go_wp2_with (first
                | (go_at_call 116; refine cV1.mono ?_; rintro e w2 ⟨rfl, hk2⟩; have HK2 := Lib.hid (HK1.out.trans hk2); have HG2 := Lib.hid ((hk2.block g (heap_lt HG1.out) id).trans HG1.out); clear hk2 cV1 q0 q1 q2; obtain ⟨q0, q1, q2⟩ := pat_cells HG2.out)
                | (go_at_call 119; refine (cZ1 _).mono ?_; rintro e w3 ⟨rfl, hw3⟩; have hwx := hw3.symm; subst hwx))
              exact bodyPost_ret (v := .tuple #[.string ⟨#[]⟩, .string ⟨#[]⟩, .string ⟨#[]⟩, .int .i64 1]) (by simp [results, Tryd.results104, go_sem]) rfl ⟨rfl, HK2.out⟩
/-- What Apply's error is: of its form, or another one, or none. -/
def ApC (s PX : ByteArray) (a d : Int) (e : Ending) : Prop := ∃ (r : ByteArray) (c : Int), e = .returned (.tuple #[.string r, .int .i64 c]) ∧ (c = 1 ↔ ¬ POk s PX a d)
theorem valid_rs {s : ByteArray} (h : Lib.validD s.data.toList = true) : runesBytes (rs s) = s := by
  apply ba_ext
  rw [txt_list]
  exact Utf.bytes_runes h
set_option maxRecDepth 100000 in
set_option maxHeartbeats 4000000 in
theorem papply_bad (s PX : ByteArray) (a d : Int) (w : World) (hT : Tabs w) (hs : s.size ≤ 100000) (hP : PX.size ≤ 100000) (ha : I64 a) (hd : I64 d) (hno : ¬ POk s PX a d) :
    Calls Tryd.prog 76 #[.string s, patV a d PX] w fun e w' => e = .returned (.tuple #[.string ⟨#[]⟩, .int .i64 1]) ∧ Kept (fun _ => False) w w' := by
  have hka : Kept (fun _ => False) w (w.alloc (patO a d PX)) := (Kept.refl _ w).alloc _
  have cS := psplit_bad s PX a d (w.alloc (patO a d PX)) (hT.kept hka id id) hs hP ha hd hno
  have HKA := Lib.hid hka
  clear hT hka hno
  go_enter Tryd.func76, Tryd.ntmps76
  go_wp2_with fail
  generalize w.alloc (patO a d PX) = wa at *
  refine cS.mono ?_
  rintro e w1 ⟨rfl, hk1⟩
  have HK1 := Lib.hid (HKA.out.trans hk1)
  clear hk1 cS
  go_wp2_with fail
  exact bodyPost_ret (v := .tuple #[.string ⟨#[]⟩, .int .i64 1]) (by simp [results, Tryd.results76, go_sem]) rfl ⟨rfl, HK1.out⟩
set_option maxRecDepth 100000 in
set_option maxHeartbeats 4000000 in
theorem papply_full (t x : List Int) (a d : Nat) (w : World) (hT : Tabs w) (hv : Vld t) (hm : mayB (runesBytes t) = true) (had : a + d ≤ t.length) (hvx : Vld x) (h0 : (0 : Int) ∉ x) (hxl : (runesBytes x).size ≤ 100000) (hr : ¬ (runesBytes x).size ≤ 4000 - (runesBytes t).size + (runesBytes ((t.drop a).take d)).size) :
    Calls Tryd.prog 76 #[.string (runesBytes t), patV a d (runesBytes x)] w fun e w' => e = .returned (.tuple #[.string ⟨#[]⟩, .int .i64 4]) ∧ Kept (fun _ => False) w w' := by
  have hsz := mayB_size hm
  have hka : Kept (fun _ => False) w (w.alloc (patO a d (runesBytes x))) := (Kept.refl _ w).alloc _
  have HG : Hid ((w.alloc (patO a d (runesBytes x))).heap[w.heap.size]? = some (patO a d (runesBytes x))) := heap_alloc_new w _
  have hlg : (runesBytes ((t.drop a).take d)).size ≤ 4000 := by
    rw [txt_size] at hsz ⊢
    have := bytes_sub (((List.take_sublist d (t.drop a)).trans (List.drop_sublist a t)))
    omega
  have cS := psplit_yes t x a d (w.alloc (patO a d (runesBytes x))) (hT.kept hka id id) hv hm had hvx h0 hxl
  generalize runesBytes (t.drop (a + d)) = S3 at *
  generalize runesBytes ((t.drop a).take d) = S2 at *
  generalize runesBytes (t.take a) = S1 at *
  generalize runesBytes t = s at *
  generalize runesBytes x = PX at *
  have HKA := Lib.hid hka
  clear hT hka hm hv hvx h0
  obtain ⟨g, hg⟩ : ∃ g, w.heap.size = g := ⟨_, rfl⟩
  have hw1 : IntKind.i64.wrap (4000 - (s.size : Int)) = 4000 - (s.size : Int) := IntWalk.i64_in _ ⟨by omega, by omega⟩
  have hw2 : IntKind.i64.wrap (4000 - (s.size : Int) + (S2.size : Int)) = 4000 - (s.size : Int) + (S2.size : Int) := IntWalk.i64_in _ ⟨by omega, by omega⟩
  have e1 : decide (4000 - (s.size : Int) + (S2.size : Int) < (PX.size : Int)) = true := decide_eq_true (by omega)
  go_enter Tryd.func76, Tryd.ntmps76
  go_wp2_with fail
  simp only [hg] at HG ⊢
  generalize w.alloc (patO a d PX) = wa at *
  refine cS.mono ?_
  rintro e w1 ⟨rfl, hk1⟩
  have HK1 := Lib.hid (HKA.out.trans hk1)
  have HG1 := Lib.hid ((hk1.block g (heap_lt HG.out) id).trans HG.out)
  clear hk1 cS
  obtain ⟨q0, q1, q2⟩ := pat_cells HG1.out
  go_wp2_with fail
  exact bodyPost_ret (v := .tuple #[.string ⟨#[]⟩, .int .i64 4]) (by simp [results, Tryd.results76, go_sem]) rfl ⟨rfl, HK1.out⟩
theorem bytes_has0 : ∀ t : List Int, (0 : Int) ∈ t → (0 : UInt8) ∈ Utf.bytes t
  | n :: r, h => by
    show (0 : UInt8) ∈ Utf.enc n ++ Utf.bytes r
    rcases List.mem_cons.1 h with h | h
    · subst h
      exact List.mem_append_left _ (by decide)
    · exact List.mem_append_right _ (bytes_has0 r h)
theorem papply_code (s PX : ByteArray) (a d : Int) (w : World) (hT : Tabs w) (hs : s.size ≤ 100000) (hP : PX.size ≤ 100000) (ha : I64 a) (hd : I64 d) :
    Calls Tryd.prog 76 #[.string s, patV a d PX] w fun e w' => ApC s PX a d e ∧ Kept (fun _ => False) w w' := by
  by_cases h : POk s PX a d
  · obtain ⟨h1, h2, h3, h4, h5, h6, h7⟩ := id h
    have hT1 := txt_rs h1
    have hX1 := valid_rs h6
    have hv := rs_vld h1
    have hvx : Vld (rs PX) := Utf.valid_runes h6
    have hx0 : (0 : Int) ∉ rs PX := by
      intro hm
      have hb : (0 : UInt8) ∈ Utf.bytes (rs PX) := bytes_has0 _ hm
      rw [← txt_list, hX1] at hb
      rw [List.contains_iff_mem.2 hb] at h7
      cases h7
    obtain ⟨a', rfl⟩ : ∃ a' : Nat, a = (a' : Int) := ⟨a.toNat, by omega⟩
    obtain ⟨d', rfl⟩ : ∃ d' : Nat, d = (d' : Int) := ⟨d.toNat, by omega⟩
    have had : a' + d' ≤ (rs s).length := by omega
    have hm' : mayB (runesBytes (rs s)) = true := by rw [hT1]; exact h1
    have hP' : (runesBytes (rs PX)).size ≤ 100000 := by rw [hX1]; exact hP
    by_cases hf : (runesBytes (rs PX)).size ≤ 4000 - (runesBytes (rs s)).size + (runesBytes (((rs s).drop a').take d')).size
    · have c := papply_yes (rs s) (rs PX) a' d' w hT hv hm' had hvx hx0 (by
        have hsz := mayB_size hm'
        have e := congrArg (fun l => (Utf.bytes l).length) (show rs s = (rs s).take a' ++ ((rs s).drop a').take d' ++ (rs s).drop (a' + d') by
          rw [List.append_assoc, ← List.drop_drop, List.take_append_drop, List.take_append_drop])
        simp only [Utf.bytes_append, List.length_append] at e
        rw [txt_size, Utf.bytes_append, Utf.bytes_append, List.length_append, List.length_append]
        rw [txt_size, txt_size, txt_size] at hf
        rw [txt_size] at hsz
        omega)
      rw [hT1, hX1] at c
      exact c.mono fun e w' ⟨he, hk⟩ => ⟨⟨_, 0, he, fun hh => absurd hh (by decide), fun hh => absurd h hh⟩, hk⟩
    · have c := papply_full (rs s) (rs PX) a' d' w hT hv hm' had hvx hx0 hP' hf
      rw [hT1, hX1] at c
      exact c.mono fun e w' ⟨he, hk⟩ => ⟨⟨_, 4, he, fun hh => absurd hh (by decide), fun hh => absurd h hh⟩, hk⟩
  · exact (papply_bad s PX a d w hT hs hP ha hd h).mono fun e w' ⟨he, hk⟩ => ⟨⟨_, 1, he, fun _ => h, fun _ => rfl⟩, hk⟩
end Go.Proofs.YthkohjijppbliaaDoor
