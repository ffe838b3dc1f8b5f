/-
  CAUSAL ORDER, PLAIN: what an operation that comes sets going.
-/
import Derived.Test.YtpgicfbaefcbmaaDoorCaG
set_option linter.unusedVariables false
namespace Go.Proofs.YtpgicfbaefcbmaaDoor
namespace Cd

def leB : List Int → List Int → Bool
  | a :: l, b :: m => decide (a ≤ b) && leB l m
  | _, _ => true
theorem leB_iff : ∀ (l m : List Int), leB l m = true ↔ ∀ (j : Nat) (a b : Int), l[j]? = some a → m[j]? = some b → a ≤ b
  | [], m => ⟨fun _ j a b h => by simp at h, fun _ => by unfold leB; rfl⟩
  | a :: l, [] => ⟨fun _ j a b _ h => by simp at h, fun _ => rfl⟩
  | a :: l, b :: m => by
    rw [leB, Bool.and_eq_true, decide_eq_true_iff, leB_iff l m]
    constructor
    · rintro ⟨h, h2⟩ j x y hx hy
      match j with
      | 0 =>
        simp only [List.getElem?_cons_zero, Option.some.injEq] at hx hy
        omega
      | j + 1 => exact h2 j x y (by simpa using hx) (by simpa using hy)
    · intro h
      exact ⟨h 0 a b rfl rfl, fun j x y hx hy => h (j + 1) x y (by simpa using hx) (by simpa using hy)⟩
/-- Ready, as a Boolean. -/
def rdB (vs : List Int) (o : OpP) : Bool := match vs[(o.st - 1).toNat]? with
  | some x => decide (o.nn = x + 1) && leB o.seen vs
  | none => false
/-- Old, as a Boolean. -/
def odB (vs : List Int) (o : OpP) : Bool := match vs[(o.st - 1).toNat]? with
  | some x => decide (o.nn ≤ x)
  | none => false
theorem rdB_iff {vs : List Int} {o : OpP} : rdB vs o = true ↔ rd vs o := by
  unfold rdB rd
  cases h : vs[(o.st - 1).toNat]? with
  | none => exact ⟨(fun h => by cases h), fun ⟨x, hx, _⟩ => by cases hx⟩
  | some x =>
    rw [Bool.and_eq_true, decide_eq_true_iff, leB_iff]
    exact ⟨fun h => ⟨x, rfl, h.1, h.2⟩, fun ⟨y, hy, hr⟩ => by injection hy with hy; subst hy; exact ⟨hr.1, hr.2⟩⟩
theorem odB_iff {vs : List Int} {o : OpP} : odB vs o = true ↔ od vs o := by
  unfold odB od
  cases h : vs[(o.st - 1).toNat]? with
  | none => exact ⟨(fun h => by cases h), fun ⟨x, hx, _⟩ => by cases hx⟩
  | some x =>
    rw [decide_eq_true_iff]
    exact ⟨fun h => ⟨x, rfl, h⟩, fun ⟨y, hy, hr⟩ => by injection hy with hy; subst hy; exact hr⟩
/-- One more of its site was done. -/
def up (vs : List Int) (o : OpP) : List Int := match vs[(o.st - 1).toNat]? with
  | some x => vs.set (o.st - 1).toNat (x + 1)
  | none => vs
theorem up_of {vs : List Int} {o : OpP} {x : Int} (h : vs[(o.st - 1).toNat]? = some x) : up vs o = vs.set (o.st - 1).toNat (x + 1) := by unfold up; rw [h]
/-- What is done, one behind another, at most so many. -/
def stl : Nat → List OpP → List Int → Option (List OpP × List Int)
  | 0, _, _ => none
  | f + 1, al, vs => match al.find? (rdB vs) with
    | none => some ([], vs)
    | some o => (stl f al (up vs o)).map fun r => (o :: r.1, r.2)
/-- What was done so far. -/
inductive Stp (al : List OpP) (vs0 : List Int) : List OpP → List Int → Prop
  | nil : Stp al vs0 [] vs0
  | snoc {t : List OpP} {vs : List Int} {o : OpP} : Stp al vs0 t vs → al.find? (rdB vs) = some o → Stp al vs0 (t ++ [o]) (up vs o)
theorem stl_stp {al : List OpP} {vs0 vs : List Int} {t : List OpP} (h : Stp al vs0 t vs) : ∀ f r, stl f al vs0 = some r → ∃ f' r', stl f' al vs = some r' ∧ r = (t ++ r'.1, r'.2) := by
  induction h with
  | nil => exact fun f r h => ⟨f, r, h, by simp⟩
  | snoc h1 h2 ih =>
    intro f r h
    obtain ⟨f', r', hr', e⟩ := ih f r h
    match f' with
    | 0 => cases hr'
    | f' + 1 =>
      rw [stl, h2] at hr'
      simp only [Option.map_eq_some_iff] at hr'
      obtain ⟨q, hq, e2⟩ := hr'
      subst e2
      exact ⟨f', q, hq, by rw [e]; simp⟩
/-- What waits, with what comes. -/
def wt (vs : List Int) (w : List OpP) (o : OpP) : List OpP := if odB vs o || w.any (fun q => decide (q.st = o.st ∧ q.nn = o.nn)) then w else w ++ [o]
/-- What is told, the vector, what waits. -/
structure Added (vs : List Int) (w : List OpP) (o : OpP) (told : List OpP) (x : List Int) (wait : List OpP) : Prop where
  stp : Stp (wt vs w o) vs told x
  non : (wt vs w o).find? (rdB x) = none
  wait : wait = (wt vs w o).filter fun q => !odB x q
def add (f : Nat) (vs : List Int) (w : List OpP) (o : OpP) : Option (List OpP × List Int × List OpP) :=
  (stl f (wt vs w o) vs).map fun r => (r.1, r.2, (wt vs w o).filter fun q => !odB r.2 q)
theorem add_det {f : Nat} {vs x : List Int} {w told wait : List OpP} {o : OpP} {r : List OpP × List Int × List OpP} (h : add f vs w o = some r) (ha : Added vs w o told x wait) : r = (told, x, wait) := by
  unfold add at h
  rw [Option.map_eq_some_iff] at h
  obtain ⟨q, hq, rfl⟩ := h
  obtain ⟨f', r', hr', e⟩ := stl_stp ha.stp f q hq
  match f' with
  | 0 => cases hr'
  | f' + 1 =>
    rw [stl, ha.non] at hr'
    injection hr' with hr'
    subst hr'
    rw [e, ha.wait]
    simp

/-! The law's own. -/
def op1 (a : Nat) : OpP := ⟨2, 1, 0, 0, 0, 0, 2, (a : Int) + 1, [0, (a : Int), 0, 0]⟩
def at1 (n turn k : Nat) : Nat := match turn with
  | 0 => k % n
  | 1 => n - 1 - k % n
  | _ => (3 * k + 1) % n
/-- The vector, what waits, all that was told: ahead of a round. -/
def run (n turn : Nat) : Nat → List Int × List OpP × List OpP
  | 0 => ([0, 0, 0, 0], [], [])
  | k + 1 => match add 20 (run n turn k).1 (run n turn k).2.1 (op1 (at1 n turn k)) with
    | some r => (r.2.1, r.2.2, (run n turn k).2.2 ++ r.1)
    | none => ([], [], [])
def okR (n turn k : Nat) : Bool :=
  decide (vecOk (run n turn k).1) && (run n turn k).2.1.all (fun o => decide (opOk o)) && decide ((run n turn k).2.1.length ≤ 14) && (decide ((run n turn (k + 1)).2.2.length ≤ 14) && decide ((run n turn (k + 1)).2.1.length ≤ 14)) && decide (opOk (op1 (at1 n turn k))) &&
  (add 20 (run n turn k).1 (run n turn k).2.1 (op1 (at1 n turn k))).isSome && (run n turn (k + 1)).2.1.all (fun o => !odB (run n turn (k + 1)).1 o && !rdB (run n turn (k + 1)).1 o)
def okE (n turn : Nat) : Bool := (decide (turn = 2) && decide (n % 3 = 0)) || (decide ((run n turn (2 * n)).2.2.map (·.nn) = (List.range n).map fun (i : Nat) => ((i : Int) + 1)) && decide ((run n turn (2 * n)).2.1 = []) && decide ((run n turn (2 * n)).1[1]? = some (n : Int)))
end Cd
end Go.Proofs.YtpgicfbaefcbmaaDoor
