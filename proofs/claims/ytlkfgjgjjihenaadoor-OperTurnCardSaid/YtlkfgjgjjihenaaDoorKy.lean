/-
  AN OPERATOR's KEY: what the program tells is the reference's.
-/
import Derived.Test.YtlkfgjgjjihenaaDoorRg
import Derived.Test.YtlkfgjgjjihenaaDoorRh
import Derived.Test.YtlkfgjgjjihenaaDoorRi
set_option linter.unusedVariables false
namespace Go.Proofs.YtlkfgjgjjihenaaDoor
open Go Go.RowKit

/-- May it be asked? -/
def GoodC (s : ByteArray) (lo hi : Int) (line : Bool) (key k : Int) : Prop := mayB s = true ∧ RngI (rs s) lo hi line ∧ key ∈ opKeys ∧ 0 ≤ k ∧ k ≤ (rs s).length
/-- What the reference tells where it may be: the same, or an error, and then the program tells that error and nothing else. -/
def RefT (s : ByteArray) (lo hi : Int) (line : Bool) (key k : Int) (a d : Int) (p : ByteArray) (x : Int) (tk : ByteArray) (l : Bool) (E : Int) : Prop :=
  ∀ w, Tabs w → Calls Tryd.prog 29 #[.string s, rngV lo hi line, .int .i64 key, .int .i64 k] w fun e w' =>
    (∃ (B ra rd : Int) (rp : ByteArray) (rx : Int) (rt : ByteArray) (rl : Bool), e = .returned (.tuple #[chgV ra rd rp rx rt rl, .int .i64 B]) ∧ E = B ∧
      ((B = 0 ∧ ra = a ∧ rd = d ∧ rp = p ∧ rx = x ∧ rt = tk ∧ rl = l) ∨ ((B != 0) = true ∧ a = 0 ∧ d = 0 ∧ p = ⟨#[]⟩ ∧ x = 0 ∧ tk = ⟨#[]⟩ ∧ l = false))) ∧ Kept (fun _ => False) w w'
def ToldC (s : ByteArray) (lo hi : Int) (line : Bool) (key k : Int) (a d : Int) (p : ByteArray) (x : Int) (tk : ByteArray) (l : Bool) (E : Int) : Prop :=
  (GoodC s lo hi line key k → RefT s lo hi line key k a d p x tk l E) ∧ (¬ GoodC s lo hi line key k → a = 0 ∧ d = 0 ∧ p = ⟨#[]⟩ ∧ x = 0 ∧ tk = ⟨#[]⟩ ∧ l = false ∧ E = 1)
/-- A key by which the program tells what the reference does. -/
def KeyOk (key : Int) : Prop := ∀ (s : ByteArray) (lo hi : Int) (line : Bool) (k : Int) (w : World), s.size ≤ 140737488351232 → Tabs w →
  Calls Tryd.prog 19 #[.string s, rngV lo hi line, .int .i64 key, .int .i64 k] w fun e w' => (∃ (a d : Int) (p : ByteArray) (x : Int) (tk : ByteArray) (l : Bool) (E : Int), e = .returned (.tuple #[chgV a d p x tk l, .int .i64 E]) ∧ ToldC s lo hi line key k a d p x tk l E) ∧ Kept (fun _ => False) w w'
theorem key_no {key : Int} {s : ByteArray} {lo hi : Int} {line : Bool} {k : Int} {w : World} (hs : s.size ≤ 140737488351232) (hT : Tabs w) (h : ¬ GoodC s lo hi line key k) :
    Calls Tryd.prog 19 #[.string s, rngV lo hi line, .int .i64 key, .int .i64 k] w fun e w' => (∃ (a d : Int) (p : ByteArray) (x : Int) (tk : ByteArray) (l : Bool) (E : Int), e = .returned (.tuple #[chgV a d p x tk l, .int .i64 E]) ∧ ToldC s lo hi line key k a d p x tk l E) ∧ Kept (fun _ => False) w w' := by
  have fin : ∀ (e : Ending) (w' : World), (e = .returned (.tuple #[chgV 0 0 ⟨#[]⟩ 0 ⟨#[]⟩ false, .int .i64 1]) ∧ Kept (fun _ => False) w w') → ((∃ (a d : Int) (p : ByteArray) (x : Int) (tk : ByteArray) (l : Bool) (E : Int), e = .returned (.tuple #[chgV a d p x tk l, .int .i64 E]) ∧ ToldC s lo hi line key k a d p x tk l E) ∧ Kept (fun _ => False) w w') :=
    fun e w' he => ⟨⟨0, 0, ⟨#[]⟩, 0, ⟨#[]⟩, false, 1, he.1, fun hg => absurd hg h, fun _ => ⟨rfl, rfl, rfl, rfl, rfl, rfl, rfl⟩⟩, he.2⟩
  by_cases h1 : mayB s = true ∧ 0 ≤ k ∧ k ≤ (rs s).length
  · obtain ⟨hm, hk0, hk1⟩ := h1
    obtain ⟨kk, rfl⟩ := Int.eq_ofNat_of_zero_le hk0
    by_cases h2 : RngI (rs s) lo hi line
    · have h3 : key ∉ opKeys := fun h3 => h ⟨hm, h2, h3, hk0, hk1⟩
      exact (of_form3 s lo hi line key kk w hT hm (by omega) h2 h3).mono fin
    · exact (of_form2 s lo hi line key kk w hT hm (by omega) h2).mono fin
  · exact (of_form1 s lo hi line key k w hs hT h1).mono fin
theorem keyOk_no {key : Int} (h : key ∉ opKeys) : KeyOk key := fun s lo hi line k w hs hT => key_no hs hT fun hg => h hg.2.2.1
/-- Where both tell the same. -/
theorem key_same {key : Int} (hyes : ∀ (s : ByteArray) (lo hi : Nat) (line : Bool) (k : Nat), mayB s = true → k ≤ (rs s).length → Rw.Rng (rs s) lo hi line →
      ∃ (a d : Int) (p : ByteArray) (x : Int) (tk : ByteArray) (l : Bool), (∀ w, Tabs w → Calls Tryd.prog 19 #[.string s, rngV lo hi line, .int .i64 key, .int .i64 k] w fun e w' => e = .returned (.tuple #[chgV a d p x tk l, .int .i64 0]) ∧ Kept (fun _ => False) w w') ∧
        (∀ w, Tabs w → Calls Tryd.prog 29 #[.string s, rngV lo hi line, .int .i64 key, .int .i64 k] w fun e w' => e = .returned (.tuple #[chgV a d p x tk l, .int .i64 0]) ∧ Kept (fun _ => False) w w')) : KeyOk key := by
  intro s lo hi line k w hs hT
  by_cases hg : GoodC s lo hi line key k
  · obtain ⟨hm, ⟨lo', hi', rfl, rfl, hr⟩, hk, hk0, hk1⟩ := id hg
    obtain ⟨kk, rfl⟩ := Int.eq_ofNat_of_zero_le hk0
    obtain ⟨a, d, p, x, tk, l, h1, h2⟩ := hyes s lo' hi' line kk hm (by omega) hr
    refine (h1 w hT).mono fun e w' he => ⟨⟨a, d, p, x, tk, l, 0, he.1, fun _ w2 hT2 => (h2 w2 hT2).mono fun e2 w3 he2 => ⟨⟨0, a, d, p, x, tk, l, he2.1, rfl, .inl ⟨rfl, rfl, rfl, rfl, rfl, rfl, rfl⟩⟩, he2.2⟩, fun hn => absurd hg hn⟩, he.2⟩
  · exact key_no hs hT hg
theorem keyOk_y : KeyOk 121 := key_same fun s lo hi line k hm hk hr => ⟨_, _, _, _, _, _, fun w hT => of_y s lo hi line k w hT hm hk hr, fun w hT => rchange_y s lo hi line k w hT hm hk hr⟩
theorem keyOk_c : KeyOk 99 := key_same fun s lo hi line k hm hk hr => ⟨_, _, _, _, _, _, fun w hT => of_d s lo hi line 99 k lo hi lo w hT hm hk hr (.inl ⟨rfl, rfl, rfl, rfl⟩), fun w hT => rchange_c s lo hi line k w hT hm hk hr⟩
theorem keyOk_d : KeyOk 100 := key_same fun s lo hi line k hm hk hr => by
  rcases Rw.dcase (rs s) lo hi line with ⟨h1, h2, h3, h4⟩ | ⟨h1, h2, h2', h3, h4⟩ | ⟨h1, h2, h2', h3, h4⟩ | ⟨h1, h3, h4⟩
  · have hw := Or.inl (b := (¬ hi < (rs s).length ∧ 0 < lo ∧ lo = lo - 1 ∧ hi + 1 = hi) ∨ (¬ hi < (rs s).length ∧ lo = 0 ∧ lo = lo ∧ hi + 1 = hi)) (show hi < (rs s).length ∧ lo = lo ∧ hi + 1 = hi + 1 from ⟨h2, rfl, rfl⟩)
    exact ⟨_, _, _, _, _, _, fun w hT => of_d s lo hi line 100 k lo (hi + 1) _ w hT hm hk hr (.inr (.inr ⟨rfl, h1, hw, rfl⟩)), fun w hT => rchange_d s lo hi line k lo (hi + 1) _ w hT hm hk hr (.inr ⟨h1, hw, rfl⟩)⟩
  · have hw : (hi < (rs s).length ∧ lo - 1 = lo ∧ hi = hi + 1) ∨ (¬ hi < (rs s).length ∧ 0 < lo ∧ lo - 1 = lo - 1 ∧ hi = hi) ∨ (¬ hi < (rs s).length ∧ lo = 0 ∧ lo - 1 = lo ∧ hi = hi) := .inr (.inl ⟨h2, h2', rfl, rfl⟩)
    exact ⟨_, _, _, _, _, _, fun w hT => of_d s lo hi line 100 k (lo - 1) hi _ w hT hm hk hr (.inr (.inr ⟨rfl, h1, hw, rfl⟩)), fun w hT => rchange_d s lo hi line k (lo - 1) hi _ w hT hm hk hr (.inr ⟨h1, hw, rfl⟩)⟩
  · have hw : (hi < (rs s).length ∧ lo = lo ∧ hi = hi + 1) ∨ (¬ hi < (rs s).length ∧ 0 < lo ∧ lo = lo - 1 ∧ hi = hi) ∨ (¬ hi < (rs s).length ∧ lo = 0 ∧ lo = lo ∧ hi = hi) := .inr (.inr ⟨h2, h2', rfl, rfl⟩)
    exact ⟨_, _, _, _, _, _, fun w hT => of_d s lo hi line 100 k lo hi _ w hT hm hk hr (.inr (.inr ⟨rfl, h1, hw, rfl⟩)), fun w hT => rchange_d s lo hi line k lo hi _ w hT hm hk hr (.inr ⟨h1, hw, rfl⟩)⟩
  · exact ⟨_, _, _, _, _, _, fun w hT => of_d s lo hi line 100 k lo hi _ w hT hm hk hr (.inr (.inl ⟨rfl, h1, rfl, rfl, rfl⟩)), fun w hT => rchange_d s lo hi line k lo hi _ w hT hm hk hr (.inl ⟨h1, rfl, rfl, rfl⟩)⟩
theorem keyOk_u (key : Int) (h : key = 117 ∨ key = 85 ∨ key = 126) : KeyOk (16777216 + key) := key_same fun s lo hi line k hm hk hr => ⟨_, _, _, _, _, _, fun w hT => of_c s lo hi line key k w hT hm hk hr h, fun w hT => rchange_u s lo hi line key k w hT hm hk hr h⟩
end Go.Proofs.YtlkfgjgjjihenaaDoor
