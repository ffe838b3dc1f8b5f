/-
  REGISTERS, PLAIN: names in order; what is told behind a change; what comes behind what is there.
-/
import Derived.Test.YtackgnkajffhiaaDoorRsP
set_option linter.unusedVariables false
namespace Go.Proofs.YtackgnkajffhiaaDoor
namespace Rs
/-- Names grow. -/
def inc (M : List RegS) : Prop := M.Pairwise fun a b => a.n < b.n
theorem inc_of_okB : ∀ {M : List RegS}, okB M = true → inc M
  | [], _ => List.Pairwise.nil
  | [r], _ => by simp [inc]
  | r :: q :: l, h => by
    simp only [okB, Bool.and_eq_true, decide_eq_true_eq] at h
    have ih := inc_of_okB (M := q :: l) h.2
    refine List.pairwise_cons.2 ⟨fun x hx => ?_, ih⟩
    rcases List.mem_cons.1 hx with rfl | hx
    · exact h.1.2
    · have := (List.pairwise_cons.1 ih).1 x hx
      have := h.1.2
      omega
theorem okB_of : ∀ {M : List RegS}, ok M → okB M = true
  | [], _ => rfl
  | [r], h => by
    have := (h 0 r rfl).1
    simp [okB, this.1, this.2]
  | r :: q :: l, h => by
    have h0 := (h 0 r rfl).1
    have h1 := (h 1 q rfl).2 r (by omega) rfl
    have ih := okB_of (M := q :: l) (fun i x hx => by
      have := h (i + 1) x (by simpa using hx)
      refine ⟨this.1, fun y hi hy => this.2 y (by omega) ?_⟩
      obtain ⟨j, rfl⟩ : ∃ j, i = j + 1 := ⟨i - 1, by omega⟩
      simpa using hy)
    simp only [okB, Bool.and_eq_true, decide_eq_true_eq]
    exact ⟨⟨h0, h1⟩, ih⟩
theorem ok_all {M : List RegS} (h : ∀ i, i < M.length → okAt M i) : okB M = true := okB_of (fun i r hr => by
  have hi : i < M.length := by
    by_cases hi : i < M.length
    · exact hi
    · rw [List.getElem?_eq_none (by omega)] at hr; cases hr
  exact h i hi r hr)
theorem ok_not {M : List RegS} {i : Nat} (h : ¬ okAt M i) : okB M = false := by
  cases hb : okB M with
  | false => rfl
  | true => exact absurd (ok_of hb i) h
/-- A register, put there, one after another. -/
def wi : List RegS → RegS → List RegS
  | [], r => [r]
  | q :: M, r => if r.n ≤ q.n then r :: wo (q :: M) r.n else q :: wi M r
theorem below_zero : ∀ {M : List RegS} {z : Int}, (∀ q ∈ M, ¬ q.n < z) → below M z = 0
  | [], _, _ => rfl
  | q :: M, z, h => by unfold below; rw [if_neg (h q List.mem_cons_self)]
theorem wo_cons (q : RegS) (M : List RegS) (z : Int) : wo (q :: M) z = if q.n = z then wo M z else q :: wo M z := by
  unfold wo
  by_cases h : q.n = z <;> simp [h]
theorem wo_mem {M : List RegS} {z : Int} {q : RegS} (h : q ∈ wo M z) : q ∈ M ∧ q.n ≠ z := by
  unfold wo at h
  have := List.mem_filter.1 h
  exact ⟨this.1, by simpa using this.2⟩
theorem wi_put : ∀ {M : List RegS} (r : RegS), inc M → wi M r = put M r
  | [], r, _ => by simp [wi, put, wo, below]
  | q :: M, r, h => by
    have hc := List.pairwise_cons.1 h
    unfold wi
    by_cases hq : r.n ≤ q.n
    · rw [if_pos hq]
      have hb : below (wo (q :: M) r.n) r.n = 0 := below_zero (fun x hx => by
        have hx := (wo_mem hx).1
        rcases List.mem_cons.1 hx with rfl | hx
        · omega
        · have := hc.1 x hx; omega)
      unfold put
      rw [hb]
      rfl
    · rw [if_neg hq, wi_put r hc.2]
      have hw : wo (q :: M) r.n = q :: wo M r.n := by rw [wo_cons, if_neg (by omega)]
      unfold put
      rw [hw]
      have hb : below (q :: wo M r.n) r.n = below (wo M r.n) r.n + 1 := by
        rw [below, if_pos (by omega)]
      rw [hb]
      rfl
theorem get_cons (q : RegS) (M : List RegS) (z : Int) : get (q :: M) z = if q.n = z then some q else get M z := by
  unfold get
  by_cases h : q.n = z
  · rw [if_pos h, List.find?_cons_of_pos (by simpa using h)]
  · rw [if_neg h, List.find?_cons_of_neg (by simpa using h)]
theorem get_nil (z : Int) : get [] z = none := rfl
theorem get_mem {M : List RegS} {z : Int} {r : RegS} (h : get M z = some r) : r ∈ M ∧ r.n = z := by
  unfold get at h
  exact ⟨List.mem_of_find?_eq_some h, by simpa using List.find?_some h⟩
theorem get_wo : ∀ (M : List RegS) (y z : Int), get (wo M y) z = if z = y then none else get M z
  | [], y, z => by simp [wo, get]
  | q :: M, y, z => by
    have ih := get_wo M y z
    rw [wo_cons, get_cons]
    by_cases h : q.n = y
    · rw [if_pos h, ih]
      by_cases hz : z = y
      · rw [if_pos hz, if_pos hz]
      · rw [if_neg hz, if_neg hz, if_neg (by omega)]
    · rw [if_neg h, get_cons, ih]
      by_cases hz : z = y
      · rw [if_pos hz, if_pos hz, if_neg (by omega)]
      · rw [if_neg hz, if_neg hz]
theorem get_wi : ∀ (M : List RegS) (r : RegS) (z : Int), get (wi M r) z = if z = r.n then some r else get M z
  | [], r, z => by
    unfold wi
    rw [get_cons]
    by_cases h : r.n = z
    · rw [if_pos h, if_pos h.symm]
    · rw [if_neg h, if_neg (fun e => h e.symm)]
  | q :: M, r, z => by
    have ih := get_wi M r z
    unfold wi
    by_cases hq : r.n ≤ q.n
    · rw [if_pos hq, get_cons, get_wo]
      by_cases h : r.n = z
      · rw [if_pos h, if_pos h.symm]
      · rw [if_neg h, if_neg (fun e => h e.symm), if_neg (fun e => h e.symm)]
    · rw [if_neg hq, get_cons, ih, get_cons]
      by_cases h : z = r.n
      · rw [if_pos h, if_pos h, if_neg (by omega)]
      · rw [if_neg h, if_neg h]
theorem get_turn : ∀ (M : List RegS) (z : Int), get (turn M) z = if 50 ≤ z ∧ z ≤ 57 then (get M (z - 1)).map (fun r => ⟨z, r.s, r.b⟩) else if z = 49 then none else get M z
  | [], z => by
    simp only [turn, wo, List.filter_nil, List.map_nil, get_nil, Option.map_none]
    split
    · rfl
    · split <;> rfl
  | q :: M, z => by
    have ih := get_turn M z
    have hc : turn (q :: M) = if q.n = 57 then turn M else turn1 q :: turn M := by
      unfold turn
      rw [wo_cons]
      split <;> rfl
    rw [hc, get_cons, get_cons]
    by_cases h7 : q.n = 57
    · rw [if_pos h7, ih]
      by_cases hz : 50 ≤ z ∧ z ≤ 57
      · rw [if_pos hz, if_pos hz, if_neg (by omega)]
      · rw [if_neg hz, if_neg hz, if_neg (show ¬ q.n = z by omega)]
    · rw [if_neg h7, get_cons, ih]
      have ht : (turn1 q).n = if 49 ≤ q.n ∧ q.n ≤ 56 then q.n + 1 else q.n := by
        unfold turn1
        split <;> rfl
      rw [ht]
      by_cases hq : 49 ≤ q.n ∧ q.n ≤ 56
      · rw [if_pos hq]
        have hv : turn1 q = ⟨q.n + 1, q.s, q.b⟩ := by unfold turn1; rw [if_pos hq]
        by_cases hz : 50 ≤ z ∧ z ≤ 57
        · rw [if_pos hz, if_pos hz]
          by_cases he : q.n = z - 1
          · rw [if_pos he, if_pos (by omega), hv]
            have : q.n + 1 = z := by omega
            rw [this]
            rfl
          · rw [if_neg he, if_neg (by omega)]
        · rw [if_neg hz, if_neg hz, if_neg (by omega)]
          by_cases h9 : z = 49
          · rw [if_pos h9, if_pos h9]
          · rw [if_neg h9, if_neg h9, if_neg (by omega)]
      · rw [if_neg hq]
        have hv : turn1 q = q := by unfold turn1; rw [if_neg hq]
        rw [hv]
        by_cases hz : 50 ≤ z ∧ z ≤ 57
        · rw [if_pos hz, if_pos hz, if_neg (by omega), if_neg (by omega)]
        · rw [if_neg hz, if_neg hz]
          by_cases h9 : z = 49
          · rw [if_pos h9, if_pos h9, if_neg (by omega)]
          · rw [if_neg h9, if_neg h9]
theorem inc_wo {M : List RegS} (z : Int) (h : inc M) : inc (wo M z) := List.Pairwise.filter _ h
theorem wi_mem : ∀ {M : List RegS} {r q : RegS}, q ∈ wi M r → q = r ∨ q ∈ M
  | [], r, q, h => by
    unfold wi at h
    exact .inl (by simpa using h)
  | p :: M, r, q, h => by
    unfold wi at h
    split at h
    · rcases List.mem_cons.1 h with rfl | h
      · exact .inl rfl
      · exact .inr (wo_mem h).1
    · rcases List.mem_cons.1 h with rfl | h
      · exact .inr List.mem_cons_self
      · rcases wi_mem h with rfl | h
        · exact .inl rfl
        · exact .inr (List.mem_cons_of_mem _ h)
theorem inc_wi : ∀ {M : List RegS} (r : RegS), inc M → inc (wi M r)
  | [], r, _ => by simp [wi, inc]
  | q :: M, r, h => by
    have hc := List.pairwise_cons.1 h
    unfold wi
    split
    · refine List.pairwise_cons.2 ⟨fun x hx => ?_, inc_wo _ h⟩
      obtain ⟨hx, hn⟩ := wo_mem hx
      rcases List.mem_cons.1 hx with rfl | hx
      · omega
      · have := hc.1 x hx; omega
    · refine List.pairwise_cons.2 ⟨fun x hx => ?_, inc_wi r hc.2⟩
      rcases wi_mem hx with rfl | hx
      · omega
      · exact hc.1 x hx
theorem inc_put {M : List RegS} (r : RegS) (h : inc M) : inc (put M r) := wi_put r h ▸ inc_wi r h
theorem inc_turn {M : List RegS} (h : inc M) : inc (turn M) := by
  unfold turn inc
  rw [List.pairwise_map]
  refine List.Pairwise.imp_of_mem (fun {a b} ha hb hab => ?_) (inc_wo 57 h)
  have h1 := (wo_mem ha).2
  have h2 := (wo_mem hb).2
  have e : ∀ q : RegS, (turn1 q).n = if 49 ≤ q.n ∧ q.n ≤ 56 then q.n + 1 else q.n := fun q => by
    unfold turn1
    split <;> rfl
  rw [e, e]
  split <;> split <;> omega
theorem get_head {q : RegS} {M : List RegS} (h : inc (q :: M)) {z : Int} (hz : z ≤ q.n) : get M z = none := by
  cases hg : get M z with
  | none => rfl
  | some r =>
    have hm := get_mem hg
    have := (List.pairwise_cons.1 h).1 r hm.1
    omega
/-- Registers in order, told by what each name tells. -/
theorem ext : ∀ {M N : List RegS}, inc M → inc N → (∀ z, get M z = get N z) → M = N
  | [], [], _, _, _ => rfl
  | [], q :: N, _, _, h => by
    have := h q.n
    rw [get_nil, get_cons, if_pos rfl] at this
    cases this
  | p :: M, [], _, _, h => by
    have := h p.n
    rw [get_nil, get_cons, if_pos rfl] at this
    cases this
  | p :: M, q :: N, hM, hN, h => by
    have hp := h p.n
    have hq := h q.n
    rw [get_cons, if_pos rfl, get_cons] at hp
    rw [get_cons, get_cons, if_pos rfl] at hq
    by_cases he : q.n = p.n
    · rw [if_pos he] at hp
      injection hp with hp
      subst hp
      rw [ext (List.pairwise_cons.1 hM).2 (List.pairwise_cons.1 hN).2 (fun z => by
        have hz := h z
        rw [get_cons, get_cons] at hz
        by_cases hpz : p.n = z
        · rw [get_head hM (by omega), get_head hN (by omega)]
        · rwa [if_neg hpz, if_neg hpz] at hz)]
    · rw [if_neg he] at hp
      rw [if_neg (fun e => he e.symm)] at hq
      have h1 := (List.pairwise_cons.1 hN).1 p (get_mem hp.symm).1
      have h2 := (List.pairwise_cons.1 hM).1 q (get_mem hq).1
      omega
/-- The reference's way of turning: one name. -/
def tl (M : List RegS) (m : Int) : List RegS := match get M (m - 1) with
  | some r => wi M ⟨m, r.s, r.b⟩
  | none => wo M m
def tls (M : List RegS) : Nat → List RegS
  | 0 => M
  | i + 1 => tl (tls M i) (57 - (i : Int))
theorem inc_tl {M : List RegS} (m : Int) (h : inc M) : inc (tl M m) := by
  unfold tl
  split
  · exact inc_wi _ h
  · exact inc_wo _ h
theorem inc_tls {M : List RegS} (h : inc M) : ∀ i, inc (tls M i)
  | 0 => h
  | i + 1 => inc_tl _ (inc_tls h i)
theorem get_tl (M : List RegS) (m z : Int) : get (tl M m) z = if z = m then (get M (m - 1)).map (fun r => ⟨m, r.s, r.b⟩) else get M z := by
  unfold tl
  cases get M (m - 1) with
  | none => exact get_wo M m z
  | some r => exact get_wi M _ z
theorem get_tls (M : List RegS) : ∀ (i : Nat) (z : Int), get (tls M i) z = if 57 - (i : Int) < z ∧ z ≤ 57 then (get M (z - 1)).map (fun r => ⟨z, r.s, r.b⟩) else get M z
  | 0, z => by
    unfold tls
    rw [if_neg (by omega)]
  | i + 1, z => by
    have ih := fun z => get_tls M i z
    unfold tls
    rw [get_tl, ih, ih]
    by_cases h : z = 57 - (i : Int)
    · subst h
      rw [if_pos rfl, if_neg (show ¬ (57 - (i : Int) < 57 - (i : Int) - 1 ∧ 57 - (i : Int) - 1 ≤ 57) by omega), if_pos (show 57 - ((i + 1 : Nat) : Int) < 57 - (i : Int) ∧ 57 - (i : Int) ≤ 57 by omega)]
    · rw [if_neg h]
      by_cases h2 : 57 - (i : Int) < z ∧ z ≤ 57
      · rw [if_pos h2, if_pos (by omega)]
      · rw [if_neg h2, if_neg (by omega)]
theorem tls_turn {M : List RegS} (h : inc M) (s : ByteArray) (b : Bool) : wi (tls M 8) ⟨49, s, b⟩ = put (turn M) ⟨49, s, b⟩ := by
  rw [← wi_put _ (inc_turn h)]
  refine ext (inc_wi _ (inc_tls h 8)) (inc_wi _ (inc_turn h)) (fun z => ?_)
  rw [get_wi, get_wi, get_tls, get_turn]
  show (if z = 49 then _ else _) = (if z = 49 then _ else _)
  by_cases h9 : z = 49
  · rw [if_pos h9, if_pos h9]
  · rw [if_neg h9, if_neg h9]
    by_cases hz : 50 ≤ z ∧ z ≤ 57
    · rw [if_pos hz, if_pos (by omega)]
    · rw [if_neg hz, if_neg (by omega), if_neg h9]
/-- What comes behind what is there. -/
def jn (q : RegS) (s : ByteArray) (b : Bool) : ByteArray := if (q.b || b) = true ∧ q.s ≠ ⟨#[]⟩ then q.s ++ ⟨#[10]⟩ ++ s else q.s ++ s
/-- Of a great name. -/
def bh (M : List RegS) (z : Int) (s : ByteArray) (b : Bool) : Option RegS := match get M (z + 32) with
  | none => some ⟨z + 32, s, b⟩
  | some q => if mayB (jn q s b) = true then some ⟨z + 32, jn q s b, q.b || b⟩ else none
/-- What Yank and Delete have in common. -/
def kpA (M : List RegS) (z : Int) (s : ByteArray) (b : Bool) : Option (List RegS × Bool) :=
  if z = 95 then some (M, false) else if Sm z then some (put (put M ⟨z, s, b⟩) ⟨34, s, b⟩, false)
  else if Gt z then (bh M z s b).map (fun r => (put (put M r) ⟨34, r.s, r.b⟩, false)) else some (put M ⟨34, s, b⟩, true)
def ykA (M : List RegS) (z : Int) (s : ByteArray) (b : Bool) : Option (List RegS) := (kpA M z s b).map fun x => if x.2 = true then put x.1 ⟨48, s, b⟩ else x.1
def dlA (M : List RegS) (z : Int) (s : ByteArray) (b : Bool) : Option (List RegS) := (kpA M z s b).map fun x => if x.2 = true then (if (b || s.data.toList.contains 10) = true then put (turn x.1) ⟨49, s, b⟩ else put x.1 ⟨45, s, b⟩) else x.1
/-- What is told of a call: the error; the registers. -/
def told (M : List RegS) (z : Int) (s : ByteArray) (b d : Bool) : Option (List RegS) := if d = true then dlA M z s b else ykA M z s b
end Rs
end Go.Proofs.YtackgnkajffhiaaDoor
