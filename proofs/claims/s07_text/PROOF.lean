import PyProof.Rows.All
import Wide.All
import OpenK.AllK
import Wide.FinOn
import PyProof.EqAt
import PyProof.EqKinds
import PyProof.TupleCall
import KE.BitLaws
import Open.SpecLaws
import KE.OsHead
import KE.OsGo
import PySem.Challenge.RW_pipereach_s07_text
set_option Elab.async false
set_option linter.all false
section
namespace My
open Pipe
def signI (p q : Int) : Int :=
  if 0 ≤ p ∧ 0 ≤ q then (if p = 0 ∧ q = 0 then 0 else 1)
  else if p ≤ 0 ∧ q ≤ 0 then -1
  else if 0 < p then (if 2 * q * q < p * p then 1 else -1)
  else (if p * p < 2 * q * q then 1 else -1)
theorem signOf_int (p q : Int) : signOf (p : Rat) (q : Rat) = signI p q := by
  have h0 : ∀ a : Int, (0 ≤ (a : Rat)) ↔ 0 ≤ a := fun a => by
    have := @Rat.intCast_le_intCast 0 a; simpa using this
  have h1 : ∀ a : Int, ((a : Rat) ≤ 0) ↔ a ≤ 0 := fun a => by
    have := @Rat.intCast_le_intCast a 0; simpa using this
  have h2 : ∀ a : Int, ((a : Rat) = 0) ↔ a = 0 := fun a => by
    have := @Rat.intCast_inj a 0; simp
  have h3 : ∀ a : Int, (0 < (a : Rat)) ↔ 0 < a := fun a => by
    have := @Rat.intCast_lt_intCast 0 a; simpa using this
  have h4 : (2 * (q:Rat) * q < p * p) ↔ 2 * q * q < p * p := by
    rw [← @Rat.intCast_lt_intCast (2*q*q) (p*p)]; simp [Rat.intCast_mul]
  have h5 : ((p:Rat) * p < 2 * q * q) ↔ p * p < 2 * q * q := by
    rw [← @Rat.intCast_lt_intCast (p*p) (2*q*q)]; simp [Rat.intCast_mul]
  unfold signOf signI
  simp only [h0, h1, h2, h3, h4, h5]
theorem irr_nat : ∀ n p q : Nat, q ≤ n → p * p = 2 * (q * q) → q = 0
  | 0, p, q, h, _ => by omega
  | n+1, p, q, h, e => by
    have hp : p % 2 = 0 := by
      rcases Nat.mod_two_eq_zero_or_one p with h | h
      · exact h
      · have : (p * p) % 2 = 1 := by rw [Nat.mul_mod, h]
        omega
    obtain ⟨k, hk⟩ : ∃ k, p = 2 * k := ⟨p / 2, by omega⟩
    subst hk
    have e2 : q * q = 2 * (k * k) := by grind
    by_cases hq : q = 0
    · exact hq
    · have hkq : k < q := by
        apply Nat.lt_of_not_le; intro hle
        have h1 := Nat.mul_le_mul hle hle
        have h2 : 0 < q * q := Nat.mul_pos (by omega) (by omega)
        omega
      have hk0 := irr_nat n q k (by omega) e2
      subst hk0
      have : q * q = 0 := by omega
      rcases Nat.mul_eq_zero.mp this with h | h <;> exact h
theorem irr (p q : Int) (e : p * p = 2 * (q * q)) : p = 0 ∧ q = 0 := by
  have h1 := irr_nat q.natAbs p.natAbs q.natAbs (Nat.le_refl _) (by
    have : ((p.natAbs * p.natAbs : Nat) : Int) = ((2 * (q.natAbs * q.natAbs) : Nat) : Int) := by
      rw [Int.natAbs_mul_self, e, Int.natCast_mul, Int.natAbs_mul_self]; rfl
    exact Int.ofNat.inj this)
  have hq : q = 0 := by omega
  subst hq
  have : p * p = 0 := by simpa using e
  exact ⟨by rcases Int.mul_eq_zero.mp this with h | h <;> exact h, rfl⟩
end My

end
section
namespace My
open Pipe
theorem rootFrom_ok (n : Nat) : ∀ k a : Nat, a * a ≤ n → n < (a + 2 ^ k) * (a + 2 ^ k) → rootFrom n k a * rootFrom n k a ≤ n ∧ n < (rootFrom n k a + 1) * (rootFrom n k a + 1)
  | 0, a, h1, h2 => by
    unfold rootFrom
    rw [Nat.pow_zero] at h2
    exact ⟨h1, h2⟩
  | k + 1, a, h1, h2 => by
    unfold rootFrom
    by_cases h : (a + 2 ^ k) * (a + 2 ^ k) ≤ n
    · rw [if_pos h]
      refine rootFrom_ok n k _ h ?_
      have e : a + 2 ^ k + 2 ^ k = a + 2 ^ (k + 1) := by rw [Nat.pow_succ]; omega
      rw [e]; exact h2
    · rw [if_neg h]
      exact rootFrom_ok n k a h1 (by omega)
theorem rootOf_ok (n : Nat) : rootOf n * rootOf n ≤ n ∧ n < (rootOf n + 1) * (rootOf n + 1) := by
  unfold rootOf
  refine rootFrom_ok n _ 0 (by omega) ?_
  rw [Nat.zero_add, ← Nat.pow_add]
  have h1 : n < 2 ^ (Nat.log2 n + 1) := by
    by_cases h : n = 0
    · subst h; exact Nat.pow_pos (by decide)
    · exact (Nat.log2_lt h).mp (Nat.lt_succ_self _)
  exact Nat.lt_of_lt_of_le h1 (Nat.pow_le_pow_right (by decide) (by omega))
theorem root_unique (n a b : Nat) (h1 : a * a ≤ n) (h2 : n < (a + 1) * (a + 1)) (h3 : b * b ≤ n) (h4 : n < (b + 1) * (b + 1)) : a = b := by
  rcases Nat.lt_trichotomy a b with h | h | h
  · have := Nat.mul_le_mul (Nat.succ_le_of_lt h) (Nat.succ_le_of_lt h); simp only [Nat.succ_eq_add_one] at this; omega
  · exact h
  · have := Nat.mul_le_mul (Nat.succ_le_of_lt h) (Nat.succ_le_of_lt h); simp only [Nat.succ_eq_add_one] at this; omega
theorem rootOf_eq (n a : Nat) (h1 : a * a ≤ n) (h2 : n < (a + 1) * (a + 1)) : rootOf n = a :=
  root_unique n _ _ (rootOf_ok n).1 (rootOf_ok n).2 h1 h2
theorem isq (a : Int) : 0 ≤ a * a := by
  rcases Int.le_total 0 a with h | h
  · exact Int.mul_nonneg h h
  · exact Int.mul_nonneg_of_nonpos_of_nonpos h h
theorem signI_ge (p q : Int) : 0 ≤ signI p q ↔ (0 ≤ p ∧ 0 ≤ q) ∨ (0 ≤ p ∧ q < 0 ∧ 2 * (q * q) ≤ p * p) ∨ (p < 0 ∧ 0 < q ∧ p * p ≤ 2 * (q * q)) := by
  have ir := irr p q
  have e1 : 2 * q * q = 2 * (q * q) := Int.mul_assoc _ _ _
  have a1 := isq p; have a2 := isq q
  have b2 : 0 < q → 0 < q * q := fun h => Int.mul_pos h h
  have b3 : q < 0 → 0 < q * q := fun h => Int.mul_pos_of_neg_of_neg h h
  have b4 : p < 0 → 0 < p * p := fun h => Int.mul_pos_of_neg_of_neg h h
  unfold signI
  rw [e1]
  grind
def floorI (P M : Int) : Int := let s := rootOf (2 * M.natAbs * M.natAbs)
  P + (if 0 ≤ M then (s : Int) else -(s : Int) - 1)
theorem floorI_ok (P M : Int) : 0 ≤ signI (P - floorI P M) M ∧ signI (P - floorI P M - 1) M < 0 := by
  have hr := rootOf_ok (2 * M.natAbs * M.natAbs)
  unfold floorI
  dsimp only
  generalize rootOf (2 * M.natAbs * M.natAbs) = s at *
  have e : ((2 * M.natAbs * M.natAbs : Nat) : Int) = 2 * (M * M) := by
    rw [Nat.mul_assoc, Int.natCast_mul, Int.natAbs_mul_self]; rfl
  have r1 : (s : Int) * s ≤ 2 * (M * M) := by rw [← e]; exact_mod_cast hr.1
  have r2 : 2 * (M * M) < ((s : Int) + 1) * ((s : Int) + 1) := by rw [← e]; exact_mod_cast hr.2
  have ns : ∀ p q : Int, signI p q < 0 ↔ ¬ (0 ≤ signI p q) := fun p q => by omega
  rw [ns, signI_ge, signI_ge]
  by_cases h : 0 ≤ M
  · rw [if_pos h]
    have e1 : P - (P + (s : Int)) = -(s : Int) := by omega
    rw [e1]
    have x1 : -(s : Int) * -(s : Int) = s * s := by grind
    have x2 : (-(s : Int) - 1) * (-(s : Int) - 1) = ((s : Int) + 1) * ((s : Int) + 1) := by grind
    rw [x1, x2]
    by_cases hM : M = 0
    · subst hM
      have : (s : Int) = 0 := by
        rcases Nat.eq_zero_or_pos s with h | h
        · rw [h]; rfl
        · have : 0 < (s : Int) * s := Int.mul_pos (by omega) (by omega)
          simp at r1; omega
      omega
    · omega
  · rw [if_neg h]
    have e1 : P - (P + (-(s : Int) - 1)) = (s : Int) + 1 := by omega
    rw [e1]
    have e2 : (s : Int) + 1 - 1 = s := by omega
    rw [e2]
    have := irr s M
    have hM : M ≠ 0 := by omega
    have : (s : Int) * s ≠ 2 * (M * M) := fun e => hM (this e).2
    omega
end My

end
section
namespace My
theorem newton_ge (n x r : Int) (hx : 0 < x) (hr : r * r ≤ n) : r ≤ (x + n / x) / 2 := by
  have h1 : 2 * r - x ≤ n / x := by
    apply (Int.le_ediv_iff_mul_le hx).mpr
    have : (2 * r - x) * x = r * r - (r - x) * (r - x) := by grind
    have := isq (r - x)
    omega
  omega
theorem newton_le (n x : Int) (hx : 0 < x) (h : x ≤ (x + n / x) / 2) : x * x ≤ n := by
  have h1 : x ≤ n / x := by omega
  exact (Int.le_ediv_iff_mul_le hx).mp h1
theorem root_of_above (n x : Int) (h1 : x * x ≤ n) (h0 : 0 ≤ x) (ha : ∀ r : Int, r * r ≤ n → r ≤ x) : n < (x + 1) * (x + 1) := by
  apply Int.not_le.mp; intro h
  have := ha (x + 1) h
  omega
theorem rootOf_int (n : Nat) (x : Int) (h0 : 0 ≤ x) (h1 : x * x ≤ n) (h2 : (n : Int) < (x + 1) * (x + 1)) : ((Pipe.rootOf n : Nat) : Int) = x := by
  obtain ⟨k, rfl⟩ := Int.eq_ofNat_of_zero_le h0
  have e := rootOf_eq n k (by exact_mod_cast h1) (by exact_mod_cast h2)
  rw [e]
end My

end
section
namespace My
open Pipe
theorem mul_den (a : Rat) : a * (a.den : Rat) = a.num := by
  have h : (a.den : Int) ≠ 0 := by have := a.den_nz; omega
  have h1 : a = (a.num : Rat) / ((a.den : Int) : Rat) := by rw [← Rat.divInt_eq_div, Rat.num_divInt_den]
  have h2 : ((a.den : Int) : Rat) ≠ 0 := fun e => h (by simpa using e)
  have h3 : ((a.den : Int) : Rat) = (a.den : Rat) := Rat.intCast_natCast _
  rw [h3] at h1 h2
  grind
theorem irrQ (a b : Rat) (e : a * a = 2 * b * b) : a = 0 ∧ b = 0 := by
  have ha : a * (a.den : Rat) = a.num := mul_den a
  have hb : b * (b.den : Rat) = b.num := mul_den b
  have h : ((a.num * b.den : Int) : Rat) * ((a.num * b.den : Int) : Rat) = 2 * (((b.num * a.den : Int) : Rat) * ((b.num * a.den : Int) : Rat)) := by
    rw [Rat.intCast_mul, Rat.intCast_mul, ← ha, ← hb]
    simp only [Rat.intCast_natCast]
    grind
  have h2 : (a.num * b.den) * (a.num * b.den) = 2 * ((b.num * a.den) * (b.num * a.den)) := by
    have : (((a.num * b.den) * (a.num * b.den) : Int) : Rat) = ((2 * ((b.num * a.den) * (b.num * a.den)) : Int) : Rat) := by
      rw [Rat.intCast_mul (a.num * b.den), Rat.intCast_mul 2, Rat.intCast_mul (b.num * a.den), h]; rfl
    exact Rat.intCast_inj.mp this
  obtain ⟨h3, h4⟩ := irr _ _ h2
  have da : (a.den : Int) ≠ 0 := by have := a.den_nz; omega
  have db : (b.den : Int) ≠ 0 := by have := b.den_nz; omega
  constructor
  · rcases Int.mul_eq_zero.mp h3 with h | h
    · exact Rat.num_eq_zero.mp h
    · exact absurd h db
  · rcases Int.mul_eq_zero.mp h4 with h | h
    · exact Rat.num_eq_zero.mp h
    · exact absurd h da
theorem sqp (a : Rat) (h : a ≠ 0) : 0 < a * a := by
  rcases (by grind : a < 0 ∨ 0 < a) with h | h
  · have := Rat.mul_pos (a := -a) (b := -a) (by grind) (by grind); grind
  · exact Rat.mul_pos h h
theorem sqn (a : Rat) : 0 ≤ a * a := by
  by_cases h : a = 0
  · subst h; grind
  · have := sqp a h; grind
def Pos (a b : Rat) : Prop := (0 < a ∧ 2 * b * b < a * a) ∨ (0 < b ∧ a * a < 2 * b * b)
theorem sign_pos (a b : Rat) : signOf a b = 1 ↔ Pos a b := by
  have ir := irrQ a b
  have a1 := sqn a; have a2 := sqn b; have a3 := sqp a; have a4 := sqp b
  have m : 0 < a → 0 < b → 0 < a * b := Rat.mul_pos
  unfold signOf Pos
  grind
theorem sign_zero (a b : Rat) : signOf a b = 0 ↔ a = 0 ∧ b = 0 := by
  unfold signOf
  grind
theorem sign_neg (a b : Rat) : signOf (-a) (-b) = - signOf a b := by
  have ir := irrQ a b
  have a1 := sqn a; have a2 := sqn b; have a3 := sqp a; have a4 := sqp b
  unfold signOf
  grind
theorem sign_cases (a b : Rat) : signOf a b = 1 ∨ signOf a b = 0 ∨ signOf a b = -1 := by
  unfold signOf
  grind
theorem pos_cases (a b : Rat) : Pos a b ∨ (a = 0 ∧ b = 0) ∨ Pos (-a) (-b) := by
  rcases sign_cases a b with h | h | h
  · exact .inl ((sign_pos a b).mp h)
  · exact .inr (.inl ((sign_zero a b).mp h))
  · refine .inr (.inr ((sign_pos _ _).mp ?_))
    rw [sign_neg, h]; rfl
theorem not_pos_neg (a b : Rat) (h : Pos a b) : ¬ Pos (-a) (-b) := by
  unfold Pos at *; grind
theorem lt_of_sq (x y : Rat) (hy : 0 ≤ y) (h : x * x < y * y) : x < y := by
  apply Classical.byContradiction; intro hn
  have h1 : 0 ≤ (x - y) * (x - y) := sqn _
  have h2 : 0 ≤ (x - y) * y := Rat.mul_nonneg (by grind) hy
  grind
theorem mul_lt_mul4 (a b c d : Rat) (h0 : 0 ≤ a) (h1 : 0 ≤ c) (h : a < b) (h' : c < d) : a * c < b * d := by
  have := Rat.mul_pos (a := b - a) (b := d - c) (by grind) (by grind)
  have := Rat.mul_nonneg (a := b - a) (b := c) (by grind) (by grind)
  have := Rat.mul_nonneg (a := a) (b := d - c) (by grind) (by grind)
  grind
theorem pos_mul (a b c d : Rat) (h : Pos a b) (h' : Pos c d) : Pos (a * c + 2 * b * d) (a * d + b * c) := by
  have n : (a * c + 2 * b * d) * (a * c + 2 * b * d) - 2 * (a * d + b * c) * (a * d + b * c) = (a * a - 2 * b * b) * (c * c - 2 * d * d) := by grind
  have qa := sqn a; have qb := sqn b; have qc := sqn c; have qd := sqn d
  rcases h with ⟨h1, h2⟩ | ⟨h1, h2⟩ <;> rcases h' with ⟨h3, h4⟩ | ⟨h3, h4⟩
  · have k := Rat.mul_pos (a := a * a - 2 * b * b) (b := c * c - 2 * d * d) (by grind) (by grind)
    refine .inl ⟨?_, by grind⟩
    have k2 := mul_lt_mul4 (2 * b * b) (a * a) (2 * d * d) (c * c) (by grind) (by grind) h2 h4
    have k3 := lt_of_sq (-(2 * b * d)) (a * c) (Rat.mul_nonneg (by grind) (by grind)) (by grind)
    grind
  · have k := Rat.mul_pos (a := a * a - 2 * b * b) (b := 2 * d * d - c * c) (by grind) (by grind)
    refine .inr ⟨?_, by grind⟩
    have k2 := mul_lt_mul4 (2 * b * b) (a * a) (c * c) (2 * d * d) (by grind) (by grind) h2 h4
    have k3 := lt_of_sq (-(b * c)) (a * d) (Rat.mul_nonneg (by grind) (by grind)) (by grind)
    grind
  · have k := Rat.mul_pos (a := 2 * b * b - a * a) (b := c * c - 2 * d * d) (by grind) (by grind)
    refine .inr ⟨?_, by grind⟩
    have k2 := mul_lt_mul4 (a * a) (2 * b * b) (2 * d * d) (c * c) (by grind) (by grind) h2 h4
    have k3 := lt_of_sq (-(a * d)) (b * c) (Rat.mul_nonneg (by grind) (by grind)) (by grind)
    grind
  · have k := Rat.mul_pos (a := 2 * b * b - a * a) (b := 2 * d * d - c * c) (by grind) (by grind)
    refine .inl ⟨?_, by grind⟩
    have k2 := mul_lt_mul4 (a * a) (2 * b * b) (c * c) (2 * d * d) (by grind) (by grind) h2 h4
    have k3 := lt_of_sq (-(a * c)) (2 * b * d) (Rat.mul_nonneg (by grind) (by grind)) (by grind)
    grind
end My

end
section
namespace My
open Pipe
theorem pos_add (a b c d : Rat) (h : Pos a b) (h' : Pos c d) : Pos (a + c) (b + d) := by
  have qa := sqn a; have qb := sqn b; have qc := sqn c; have qd := sqn d
  -- one kind and the other
  have mixed : ∀ a b c d : Rat, 0 < a → 2 * b * b < a * a → 0 < d → c * c < 2 * d * d → Pos (a + c) (b + d) := by
    intro a b c d h1 h2 h3 h4
    rcases pos_cases (a + c) (b + d) with h | ⟨h, h'⟩ | h
    · exact h
    · exfalso
      have e1 : c = -a := by grind
      have e2 : d = -b := by grind
      subst e1 e2
      grind
    · exfalso
      -- a + c ≤ -√2 (b + d)
      rcases h with ⟨h5, h6⟩ | ⟨h5, h6⟩
      · -- x = -(a+c) > 0, x² > 2 (b+d)²;  -c > √2 d > ... : c = -(a + x): c² = a² + 2ax + x²; 2d² = 2 (b - (b+d))²
        have k := mul_lt_mul4 (2 * b * b) (a * a) (2 * (b + d) * (b + d)) ((a + c) * (a + c)) (by have := sqn b; grind) (by have := sqn (b + d); grind) h2 (by grind)
        have k3 := lt_of_sq (-(2 * b * (b + d))) (a * -(a + c)) (Rat.mul_nonneg (by grind) (by grind)) (by grind)
        grind
      · have k := mul_lt_mul4 (c * c) (2 * d * d) ((a + c) * (a + c)) (2 * (b + d) * (b + d)) (sqn c) (sqn (a + c)) h4 (by grind)
        have k3 := lt_of_sq (-(c * (a + c))) (2 * d * -(b + d)) (Rat.mul_nonneg (by grind) (by grind)) (by grind)
        grind
  rcases h with ⟨h1, h2⟩ | ⟨h1, h2⟩ <;> rcases h' with ⟨h3, h4⟩ | ⟨h3, h4⟩
  · have k2 := mul_lt_mul4 (2 * b * b) (a * a) (2 * d * d) (c * c) (by grind) (by grind) h2 h4
    have k3 := lt_of_sq (2 * b * d) (a * c) (Rat.mul_nonneg (by grind) (by grind)) (by grind)
    exact .inl ⟨by grind, by grind⟩
  · exact mixed a b c d h1 h2 h3 h4
  · have := mixed c d a b h3 h4 h1 h2
    rw [Rat.add_comm a c, Rat.add_comm b d]; exact this
  · have k2 := mul_lt_mul4 (a * a) (2 * b * b) (c * c) (2 * d * d) (by grind) (by grind) h2 h4
    have k3 := lt_of_sq (a * c) (2 * b * d) (Rat.mul_nonneg (by grind) (by grind)) (by grind)
    exact .inr ⟨by grind, by grind⟩
end My

end
section
set_option linter.unusedSimpArgs false
namespace My
open Pipe
theorem q2_ext {x y : Q2} (h : x.a = y.a) (h' : x.b = y.b) : x = y := by
  cases x; cases y; cases h; cases h'; rfl
instance qAdd : Add Q2 := ⟨Q2.add⟩
instance qSub : Sub Q2 := ⟨Q2.sub⟩
instance qMul : Mul Q2 := ⟨Q2.mul⟩
instance qNeg : Neg Q2 := ⟨fun x => ⟨-x.a, -x.b⟩⟩
instance qNat : NatCast Q2 := ⟨fun n => ⟨(n : Rat), 0⟩⟩
instance qOf (n : Nat) : OfNat Q2 n := ⟨⟨(n : Rat), 0⟩⟩
instance qInt : IntCast Q2 := ⟨fun n => ⟨(n : Rat), 0⟩⟩
instance qSn : SMul Nat Q2 := ⟨fun n x => (n : Q2) * x⟩
instance qSi : SMul Int Q2 := ⟨fun n x => (n : Q2) * x⟩
def qpow (x : Q2) : Nat → Q2
  | 0 => 1
  | n + 1 => qpow x n * x
instance qPow : HPow Q2 Nat Q2 := ⟨qpow⟩
instance qInv : Inv Q2 := ⟨fun x => ⟨x.a / (x.a * x.a - 2 * x.b * x.b), -x.b / (x.a * x.a - 2 * x.b * x.b)⟩⟩
instance qDiv : Div Q2 := ⟨fun x y => x * y⁻¹⟩
instance qLE : LE Q2 := ⟨fun x y => Q2.le x y = true⟩
instance qLT : LT Q2 := ⟨fun x y => ¬ (y ≤ x)⟩
theorem add_a (x y : Q2) : (x + y).a = x.a + y.a := rfl
theorem add_b (x y : Q2) : (x + y).b = x.b + y.b := rfl
theorem sub_a (x y : Q2) : (x - y).a = x.a - y.a := rfl
theorem sub_b (x y : Q2) : (x - y).b = x.b - y.b := rfl
theorem mul_a (x y : Q2) : (x * y).a = x.a * y.a + 2 * x.b * y.b := rfl
theorem mul_b (x y : Q2) : (x * y).b = x.a * y.b + x.b * y.a := rfl
theorem neg_a (x : Q2) : (-x).a = -x.a := rfl
theorem neg_b (x : Q2) : (-x).b = -x.b := rfl
theorem of_a (n : Nat) : (OfNat.ofNat n : Q2).a = (n : Rat) := rfl
theorem zero_a : (0 : Q2).a = 0 := rfl
theorem zero_b : (0 : Q2).b = 0 := rfl
theorem one_a : (1 : Q2).a = 1 := rfl
theorem one_b : (1 : Q2).b = 0 := rfl
theorem nc_a (n : Nat) : ((n : Nat) : Q2).a = (n : Rat) := rfl
theorem nc_b (n : Nat) : ((n : Nat) : Q2).b = 0 := rfl
theorem ic_a (n : Int) : ((n : Int) : Q2).a = (n : Rat) := rfl
theorem ic_b (n : Int) : ((n : Int) : Q2).b = 0 := rfl
theorem inv_a (x : Q2) : (x⁻¹).a = x.a / (x.a * x.a - 2 * x.b * x.b) := rfl
theorem inv_b (x : Q2) : (x⁻¹).b = -x.b / (x.a * x.a - 2 * x.b * x.b) := rfl
instance qRing : Lean.Grind.CommRing Q2 where
  add_zero x := q2_ext (by rw [add_a, zero_a]; grind) (by rw [add_b, zero_b]; grind)
  add_comm x y := q2_ext (by simp only [add_a]; grind) (by simp only [add_b]; grind)
  add_assoc x y z := q2_ext (by simp only [add_a]; grind) (by simp only [add_b]; grind)
  mul_assoc x y z := q2_ext (by simp only [mul_a, mul_b]; grind) (by simp only [mul_a, mul_b]; grind)
  mul_comm x y := q2_ext (by simp only [mul_a, mul_b]; grind) (by simp only [mul_a, mul_b]; grind)
  mul_one x := q2_ext (by simp only [mul_a, mul_b, one_a, one_b]; grind) (by simp only [mul_a, mul_b, one_a, one_b]; grind)
  left_distrib x y z := q2_ext (by simp only [mul_a, mul_b, add_a, add_b]; grind) (by simp only [mul_a, mul_b, add_a, add_b]; grind)
  zero_mul x := q2_ext (by simp only [mul_a, mul_b, zero_a, zero_b]; grind) (by simp only [mul_a, mul_b, zero_a, zero_b]; grind)
  one_mul x := q2_ext (by simp only [mul_a, mul_b, one_a, one_b]; grind) (by simp only [mul_a, mul_b, one_a, one_b]; grind)
  right_distrib x y z := q2_ext (by simp only [mul_a, mul_b, add_a, add_b]; grind) (by simp only [mul_a, mul_b, add_a, add_b]; grind)
  mul_zero x := q2_ext (by simp only [mul_a, mul_b, zero_a, zero_b]; grind) (by simp only [mul_a, mul_b, zero_a, zero_b]; grind)
  pow_zero x := rfl
  pow_succ x n := rfl
  ofNat_succ n := q2_ext (by rw [add_a]; show ((n + 1 : Nat) : Rat) = (n : Rat) + 1; simp) (by rw [add_b]; show (0 : Rat) = 0 + 0; grind)
  neg_add_cancel x := q2_ext (by simp only [add_a, neg_a, zero_a]; grind) (by simp only [add_b, neg_b, zero_b]; grind)
  sub_eq_add_neg x y := q2_ext (by simp only [add_a, sub_a, neg_a]; grind) (by simp only [add_b, sub_b, neg_b]; grind)
  neg_zsmul i x := by
    show ((-i : Int) : Q2) * x = - (((i : Int) : Q2) * x)
    exact q2_ext (by simp only [mul_a, neg_a, ic_a, ic_b, Rat.intCast_neg]; grind) (by simp only [mul_b, neg_b, ic_a, ic_b, Rat.intCast_neg]; grind)
  zsmul_natCast_eq_nsmul n x := by
    show (((n : Int) : Int) : Q2) * x = ((n : Nat) : Q2) * x
    exact q2_ext (by simp only [mul_a, ic_a, ic_b, nc_a, nc_b, Rat.intCast_natCast]) (by simp only [mul_b, ic_a, ic_b, nc_a, nc_b, Rat.intCast_natCast])
  intCast_ofNat n := q2_ext (by rw [ic_a, of_a]; rfl) rfl
  intCast_neg i := q2_ext (by rw [ic_a, neg_a, ic_a, Rat.intCast_neg]) (by rw [ic_b, neg_b, ic_b]; simp)
def qzpow (x : Q2) : Int → Q2
  | .ofNat n => qpow x n
  | .negSucc n => (qpow x (n + 1))⁻¹
instance qZpow : HPow Q2 Int Q2 := ⟨qzpow⟩
theorem q2_inv_inv (x : Q2) : (x⁻¹)⁻¹ = x := by
  have ir := irrQ x.a x.b
  by_cases h : x.a = 0 ∧ x.b = 0
  · obtain ⟨h1, h2⟩ := h
    refine q2_ext ?_ ?_
    · rw [inv_a, inv_a, inv_b, h1, h2]; grind
    · rw [inv_b, inv_a, inv_b, h1, h2]; grind
  · have hn : x.a * x.a - 2 * x.b * x.b ≠ 0 := by grind
    refine q2_ext ?_ ?_
    · rw [inv_a, inv_a, inv_b]
      have e : x.a / (x.a * x.a - 2 * x.b * x.b) * (x.a / (x.a * x.a - 2 * x.b * x.b)) - 2 * (-x.b / (x.a * x.a - 2 * x.b * x.b)) * (-x.b / (x.a * x.a - 2 * x.b * x.b)) = 1 / (x.a * x.a - 2 * x.b * x.b) := by grind
      rw [e]; grind
    · rw [inv_b, inv_a, inv_b]
      have e : x.a / (x.a * x.a - 2 * x.b * x.b) * (x.a / (x.a * x.a - 2 * x.b * x.b)) - 2 * (-x.b / (x.a * x.a - 2 * x.b * x.b)) * (-x.b / (x.a * x.a - 2 * x.b * x.b)) = 1 / (x.a * x.a - 2 * x.b * x.b) := by grind
      rw [e]; grind
instance qField : Lean.Grind.Field Q2 where
  div_eq_mul_inv x y := rfl
  zero_ne_one := fun h => by have := congrArg Q2.a h; rw [zero_a, one_a] at this; grind
  inv_zero := q2_ext (by rw [inv_a, zero_a, zero_b]; grind) (by rw [inv_b, zero_a, zero_b]; grind)
  mul_inv_cancel := by
    intro x hx
    have hn : x.a * x.a - 2 * x.b * x.b ≠ 0 := fun e => by
      obtain ⟨h1, h2⟩ := irrQ x.a x.b (by grind)
      exact hx (q2_ext h1 h2)
    exact q2_ext (by simp only [mul_a, inv_a, inv_b, one_a]; grind) (by simp only [mul_b, inv_a, inv_b, one_b]; grind)
  zpow_zero x := rfl
  zpow_succ x n := rfl
  zpow_neg x n := by
    show qzpow x (-n) = (qzpow x n)⁻¹
    match n with
    | .ofNat 0 =>
      show (1 : Q2) = (1 : Q2)⁻¹
      exact q2_ext (by rw [inv_a, one_a, one_b]; grind) (by rw [inv_b, one_a, one_b]; grind)
    | .ofNat (n + 1) => rfl
    | .negSucc n =>
      show qpow x (n + 1) = ((qpow x (n + 1))⁻¹)⁻¹
      rw [q2_inv_inv]
end My

end
section
set_option linter.unusedSimpArgs false
namespace My
open Pipe
theorem le_def (x y : Q2) : x ≤ y ↔ 0 ≤ signOf (y - x).a (y - x).b := by
  show decide (0 ≤ signOf (y.sub x).a (y.sub x).b) = true ↔ _
  rw [decide_eq_true_iff]; rfl
theorem le_pos (x y : Q2) : x ≤ y ↔ Pos (y - x).a (y - x).b ∨ y = x := by
  rw [le_def]
  have h1 := sign_pos (y - x).a (y - x).b
  have h2 := sign_zero (y - x).a (y - x).b
  have h3 := sign_cases (y - x).a (y - x).b
  constructor
  · intro h
    rcases h3 with h3 | h3 | h3
    · exact .inl (h1.mp h3)
    · right
      obtain ⟨e1, e2⟩ := h2.mp h3
      rw [sub_a] at e1; rw [sub_b] at e2
      exact q2_ext (by grind) (by grind)
    · omega
  · rintro (h | h)
    · have := h1.mpr h; omega
    · subst h
      have := h2.mpr ⟨by rw [sub_a]; grind, by rw [sub_b]; grind⟩
      omega
theorem lt_pos (x y : Q2) : x < y ↔ Pos (y - x).a (y - x).b := by
  show ¬ (y ≤ x) ↔ _
  rw [le_pos]
  have e1 : (x - y).a = -(y - x).a := by simp only [sub_a]; grind
  have e2 : (x - y).b = -(y - x).b := by simp only [sub_b]; grind
  rw [e1, e2]
  have h := not_pos_neg (y - x).a (y - x).b
  constructor
  · intro hn
    rcases pos_cases (y - x).a (y - x).b with h' | ⟨h1, h2⟩ | h'
    · exact h'
    · exfalso; apply hn; right
      rw [sub_a] at h1; rw [sub_b] at h2
      exact q2_ext (by grind) (by grind)
    · exact absurd (.inl h') hn
  · rintro hp (h' | h')
    · exact h hp h'
    · subst h'
      unfold Pos at hp
      simp only [sub_a, sub_b] at hp
      grind
instance qLin : Std.IsLinearOrder Q2 where
  le_refl x := (le_pos x x).mpr (.inr rfl)
  le_trans x y z h1 h2 := by
    rw [le_pos] at h1 h2 ⊢
    rcases h1 with h1 | h1
    · rcases h2 with h2 | h2
      · left
        have := pos_add _ _ _ _ h1 h2
        have e1 : (y - x).a + (z - y).a = (z - x).a := by simp only [sub_a]; grind
        have e2 : (y - x).b + (z - y).b = (z - x).b := by simp only [sub_b]; grind
        rwa [e1, e2] at this
      · subst h2; exact .inl h1
    · subst h1; exact h2
  le_antisymm x y h1 h2 := by
    rw [le_pos] at h1
    rcases h1 with h1 | h1
    · exact absurd h2 ((lt_pos x y).mpr h1)
    · exact h1.symm
  le_total x y := by
    by_cases h : y ≤ x
    · exact .inr h
    · have := (lt_pos x y).mp h
      exact .inl ((le_pos x y).mpr (.inl this))
instance qLt : Std.LawfulOrderLT Q2 where
  lt_iff x y := by
    constructor
    · intro h
      exact ⟨(le_pos x y).mpr (.inl ((lt_pos x y).mp h)), h⟩
    · exact fun h => h.2
instance qOrd : Lean.Grind.OrderedRing Q2 where
  add_le_left_iff := by
    intro a b c
    rw [le_def, le_def]
    have e1 : (b + c - (a + c)).a = (b - a).a := by simp only [sub_a, add_a]; grind
    have e2 : (b + c - (a + c)).b = (b - a).b := by simp only [sub_b, add_b]; grind
    rw [e1, e2]
  zero_lt_one := by
    rw [lt_pos]
    left
    simp only [sub_a, sub_b, one_a, one_b, zero_a, zero_b]
    grind
  mul_lt_mul_of_pos_left := by
    intro a b c h1 h2
    rw [lt_pos] at *
    have := pos_mul _ _ _ _ h1 h2
    have e1 : (c * b - c * a).a = (b - a).a * (c - 0).a + 2 * (b - a).b * (c - 0).b := by simp only [sub_a, sub_b, mul_a, mul_b, zero_a, zero_b]; grind
    have e2 : (c * b - c * a).b = (b - a).a * (c - 0).b + (b - a).b * (c - 0).a := by simp only [sub_a, sub_b, mul_a, mul_b, zero_a, zero_b]; grind
    rwa [e1, e2]
  mul_lt_mul_of_pos_right := by
    intro a b c h1 h2
    rw [lt_pos] at *
    have := pos_mul _ _ _ _ h1 h2
    have e1 : (b * c - a * c).a = (b - a).a * (c - 0).a + 2 * (b - a).b * (c - 0).b := by simp only [sub_a, sub_b, mul_a, mul_b, zero_a, zero_b]; grind
    have e2 : (b * c - a * c).b = (b - a).a * (c - 0).b + (b - a).b * (c - 0).a := by simp only [sub_a, sub_b, mul_a, mul_b, zero_a, zero_b]; grind
    rwa [e1, e2]
end My

end
section
namespace My
open Pipe
instance qDecLe (x y : Q2) : Decidable (x ≤ y) := inferInstanceAs (Decidable (Q2.le x y = true))
instance qDecLt (x y : Q2) : Decidable (x < y) := inferInstanceAs (Decidable (¬ (y ≤ x)))
end My

end
section
namespace My
open Pipe
theorem signI_cases (p q : Int) : signI p q = 1 ∨ signI p q = 0 ∨ signI p q = -1 := by
  unfold signI; grind
theorem signI_mono (x y q : Int) (h : x ≤ y) (hx : 0 ≤ signI x q) : 0 ≤ signI y q := by
  rw [signI_ge] at *
  have k1 : 0 ≤ x → x * x ≤ y * y := fun h0 => Int.mul_self_le_mul_self h0 h
  have k2 : y < 0 → y * y ≤ x * x := fun h0 => by
    have := Int.mul_self_le_mul_self (a := -y) (b := -x) (by omega) (by omega)
    rwa [Int.neg_mul_neg, Int.neg_mul_neg] at this
  omega
theorem floorI_le (P M x : Int) : x ≤ floorI P M ↔ 0 ≤ signI (P - x) M := by
  obtain ⟨h1, h2⟩ := floorI_ok P M
  constructor
  · intro h; exact signI_mono _ _ _ (by omega) h1
  · intro h
    apply Int.not_lt.mp; intro hn
    have := signI_mono _ (P - floorI P M - 1) _ (by omega) h
    omega
theorem floorI_div (P M d f : Int) (hd : 0 < d) : floorI P M / d = f ↔ 0 ≤ signI (P - f * d) M ∧ signI (P - (f + 1) * d) M < 0 := by
  have e1 := floorI_le P M (f * d)
  have e2 := floorI_le P M ((f + 1) * d)
  have e3 : signI (P - (f + 1) * d) M < 0 ↔ ¬ ((f + 1) * d ≤ floorI P M) := by rw [e2]; omega
  rw [← e1, e3]
  constructor
  · intro h
    subst h
    have := Int.ediv_mul_le (floorI P M) (b := d) (by omega)
    have := Int.lt_ediv_add_one_mul_self (floorI P M) hd
    omega
  · rintro ⟨h1, h2⟩
    have := Int.le_ediv_of_mul_le hd h1
    have := Int.ediv_lt_of_lt_mul hd (by omega : floorI P M < (f + 1) * d)
    omega
theorem floorOf_eq (a : Len) (n d : Nat) (hn : 0 < n) : floorOf a n d = floorI (a.p * n) (a.q * n) / (d : Int) := by
  unfold floorOf floorI
  dsimp only
  have h : (0 ≤ a.q * (n : Int)) ↔ 0 ≤ a.q := by
    constructor
    · intro h; apply Int.not_lt.mp; intro hn'
      have := Int.mul_neg_of_neg_of_pos hn' (by omega : 0 < (n : Int)); omega
    · intro h; exact Int.mul_nonneg h (by omega)
  congr 1
  congr 1
  by_cases h0 : 0 ≤ a.q
  · rw [if_pos h0, if_pos (h.mpr h0)]
  · rw [if_neg h0, if_neg (fun h' => h0 (h.mp h')), if_neg]
    intro hm
    exact h0 (h.mp (by omega))
theorem floor_char (p q : Int) (n d : Nat) (hn : 0 < n) (hd : 0 < d) (f : Int) :
    floorOf ⟨p, q⟩ n d = f ↔ 0 ≤ signI (p * n - f * d) (q * n) ∧ signI (p * n - (f + 1) * d) (q * n) < 0 := by
  rw [floorOf_eq _ _ _ hn]
  exact floorI_div _ _ _ _ (by omega)
theorem signOf_half (p q f : Int) (n d : Nat) : signOf (2 * (p : Rat) * n - (2 * (f : Rat) + 1) * d) (2 * (q : Rat) * n) = signI (2 * p * n - (2 * f + 1) * d) (2 * q * n) := by
  rw [← signOf_int]
  congr 1
  · simp only [Rat.intCast_sub, Rat.intCast_mul, Rat.intCast_add, Rat.intCast_natCast]; rfl
  · simp only [Rat.intCast_mul, Rat.intCast_natCast]; rfl
theorem whole_near (p q : Int) (n d : Nat) : wholeOf ⟨p, q⟩ 2 n d = (let f := floorOf ⟨p, q⟩ n d
    if signI (2 * p * n - (2 * f + 1) * d) (2 * q * n) < 0 then f else if 0 < signI (2 * p * n - (2 * f + 1) * d) (2 * q * n) then f + 1 else if f % 2 = 0 then f else f + 1) := by
  dsimp only
  rw [← signOf_half]
  rfl
theorem near_char (p q : Int) (n d : Nat) (hn : 0 < n) (hd : 0 < d) (k : Int)
    (h1 : 0 ≤ signI (2 * p * n - (2 * k - 1) * d) (2 * q * n)) (h2 : signI (2 * p * n - (2 * k + 1) * d) (2 * q * n) ≤ 0)
    (h3 : signI (2 * p * n - (2 * k - 1) * d) (2 * q * n) = 0 ∨ signI (2 * p * n - (2 * k + 1) * d) (2 * q * n) = 0 → k % 2 = 0) :
    wholeOf ⟨p, q⟩ 2 n d = k := by
  have two : ∀ x y : Int, 0 ≤ signI (2 * x) (2 * y) ↔ 0 ≤ signI x y := by
    intro x y
    rw [signI_ge, signI_ge]
    have a1 : 2 * x * (2 * x) = 4 * (x * x) := by grind
    have a2 : 2 * y * (2 * y) = 4 * (y * y) := by grind
    rw [a1, a2]; omega
  rw [whole_near]
  dsimp only
  have hf := (floor_char p q n d hn hd (floorOf ⟨p, q⟩ n d)).mp rfl
  generalize floorOf ⟨p, q⟩ n d = f at *
  obtain ⟨f1, f2⟩ := hf
  have e2 : 2 * q * (n : Int) = 2 * (q * n) := Int.mul_assoc _ _ _
  rw [e2] at h1 h2 h3 ⊢
  have g1 := (two (p * n - f * d) (q * n)).mpr f1
  have g2 : ¬ (0 ≤ signI (2 * (p * n - (f + 1) * d)) (2 * (q * n))) := by rw [two]; omega
  -- f ≤ k ≤ f + 1
  have hfk : f ≤ k := by
    apply Int.not_lt.mp; intro hlt
    have hm := signI_mono (2 * (p * n - f * d)) (2 * p * n - (2 * k + 1) * d) (2 * (q * n)) (by
      have : (2 * k + 1) * (d : Int) ≤ (2 * f) * d := Int.mul_le_mul_of_nonneg_right (by omega) (by omega)
      grind) g1
    have hz : signI (2 * p * n - (2 * k + 1) * d) (2 * (q * n)) = 0 := by omega
    -- then p n = f d .. : equal to 0 twice over
    have z1 : ∀ x y : Int, signI x y = 0 → x = 0 ∧ y = 0 := fun x y h => by unfold signI at h; grind
    obtain ⟨z2, z3⟩ := z1 _ _ hz
    rw [z3] at g1
    have : 0 ≤ 2 * (p * n - f * d) := by rw [signI_ge] at g1; omega
    have : (2 * k + 1) * (d : Int) < (2 * f) * d := Int.mul_lt_mul_of_pos_right (by omega) (by omega)
    grind
  have hkf : k ≤ f + 1 := by
    apply Int.not_lt.mp; intro hlt
    have hm := signI_mono (2 * p * n - (2 * k - 1) * d) (2 * (p * n - (f + 1) * d)) (2 * (q * n)) (by
      have : (2 * (f + 1)) * (d : Int) ≤ (2 * k - 1) * d := Int.mul_le_mul_of_nonneg_right (by omega) (by omega)
      grind) h1
    exact g2 hm
  rcases (by omega : k = f ∨ k = f + 1) with h | h
  · subst h
    have hc := signI_cases (2 * p * n - (2 * k + 1) * d) (2 * (q * n))
    split
    · rfl
    · split
      · omega
      · have : k % 2 = 0 := h3 (.inr (by omega))
        rw [if_pos this]
  · subst h
    have e : 2 * (f + 1) - 1 = 2 * f + 1 := by omega
    rw [e] at h1 h3
    split
    · omega
    · split
      · rfl
      · have : (f + 1) % 2 = 0 := h3 (.inl (by omega))
        rw [if_neg (by omega)]
end My

end
section
namespace My
open Pipe
open PipePlace
theorem natOf_nonneg (z : Int) (h : 0 ≤ z) : PlNeutral.natOf z = some z.toNat := by
  unfold PlNeutral.natOf; rw [if_pos h]
theorem fine_iff (p q : Int) : Len.fine ⟨p, q⟩ = true ↔ (-1099511627776 ≤ p ∧ p ≤ 1099511627776) ∧ (-1099511627776 ≤ q ∧ q ≤ 1099511627776) := by
  unfold Len.fine MOST
  rw [Bool.and_eq_true, decide_eq_true_iff, decide_eq_true_iff]
  dsimp only
  omega
theorem text_due (p q w : Int) (h : 0 ≤ w) : PyWqakca.text p q w = if 6 < w then [-1] else if Len.fine ⟨p, q⟩ = false then [-2] else 0 :: (pointed (wholeOf ⟨p, q⟩ 2 (10 ^ w.toNat) 2000) w.toNat).map fun (c : UInt8) => (c.toNat : Int) := by
  have e : PyWqakca.text p q w = (match (PlNeutral.natOf w).map fun (x : Nat) => PipePlace.Call.text ⟨p, q⟩ x with
    | some x => PlNeutral.numbers (answer x)
    | none => []) := by
    show (PlNeutral.step PlNeutral.start [[7, p, q, w]]).2 = _
    show (match (PlNeutral.natOf w).map fun (x : Nat) => PipePlace.Call.text ⟨p, q⟩ x with
      | some x => (let y := PipePlace.step PlNeutral.start x; (y.1, PlNeutral.numbers y.2))
      | none => (PlNeutral.start, [])).2 = _
    cases (PlNeutral.natOf w).map fun (x : Nat) => PipePlace.Call.text ⟨p, q⟩ x <;> rfl
  rw [e, natOf_nonneg w h]
  show PlNeutral.numbers (if 6 < w.toNat then .refused 1 else if Len.fine ⟨p, q⟩ = false then .refused 2 else .text (pointed (wholeOf ⟨p, q⟩ 2 (10 ^ w.toNat) 2000) w.toNat)) = _
  have h2 : (6 < w.toNat) ↔ 6 < w := by omega
  by_cases h3 : 6 < w
  · rw [if_pos h3, if_pos (h2.mpr h3)]; rfl
  · rw [if_neg h3, if_neg (fun k => h3 (h2.mp k))]
    split <;> rfl
end My

end
section
namespace My
open Pipe
def fr (P Q D : Int) : Q2 := ⟨(P : Rat) / (D : Rat), (Q : Rat) / (D : Rat)⟩
end My

end
section
namespace My
open Pipe
open PipePlace
abbrev L2I := Int × Int
def below (a b : L2I) : Bool := decide (signI (a.1 - b.1) (a.2 - b.2) < 0)
def nm (a : L2I) : Q2 := ⟨(a.1 : Rat), (a.2 : Rat)⟩
end My

end
section
namespace My
open Pipe
def dig (n : Nat) : List UInt8 := (Nat.toDigits 10 n).map fun (c : Char) => UInt8.ofNat c.toNat
def lastd : Nat → Nat → List UInt8
  | 0, _ => []
  | s + 1, n => lastd s (n / 10) ++ [UInt8.ofNat (48 + n % 10)]
theorem lastd_len : ∀ s n, (lastd s n).length = s
  | 0, _ => rfl
  | s + 1, n => by unfold lastd; rw [List.length_append, lastd_len]; rfl
theorem digitChar_code : ∀ d, d < 10 → UInt8.ofNat (Nat.digitChar d).toNat = UInt8.ofNat (48 + d) := by decide
theorem dig_small (n : Nat) (h : n < 10) : dig n = [UInt8.ofNat (48 + n)] := by
  unfold dig; rw [Nat.toDigits_of_lt_base h]; exact congrArg (fun x => [x]) (digitChar_code n h)
theorem dig_step (n : Nat) (h : 10 ≤ n) : dig n = dig (n / 10) ++ [UInt8.ofNat (48 + n % 10)] := by
  unfold dig
  rw [Nat.toDigits_of_base_le (by decide) h, List.map_append]
  exact congrArg (fun x => List.map (fun (c : Char) => UInt8.ofNat c.toNat) (Nat.toDigits 10 (n / 10)) ++ [x]) (digitChar_code _ (Nat.mod_lt _ (by decide)))
theorem dig_pos (n : Nat) : 0 < (dig n).length := by
  by_cases h : n < 10
  · rw [dig_small n h]; exact Nat.one_pos
  · rw [dig_step n (by omega), List.length_append]; show 0 < _ + 1; omega
def padd (n m : Nat) : List UInt8 := List.replicate (m - (dig n).length) 48 ++ dig n
theorem padd_one (n : Nat) : padd n 1 = dig n := by
  unfold padd; have := dig_pos n
  rw [(by omega : 1 - (dig n).length = 0)]; rfl
theorem padd_step (n m : Nat) : padd n (m + 2) = padd (n / 10) (m + 1) ++ [UInt8.ofNat (48 + n % 10)] := by
  unfold padd
  by_cases h : n < 10
  · have e : n / 10 = 0 := by omega
    have e2 : n % 10 = n := by omega
    rw [e, e2, dig_small n h, dig_small 0 (by decide)]
    show List.replicate (m + 2 - 1) 48 ++ _ = List.replicate (m + 1 - 1) 48 ++ [48] ++ _
    rw [(by omega : m + 2 - 1 = m + 1), (by omega : m + 1 - 1 = m), List.replicate_succ']
  · have e := dig_step n (by omega)
    have l : (dig n).length = (dig (n / 10)).length + 1 := by rw [e, List.length_append]; rfl
    rw [l, e, (by omega : m + 2 - ((dig (n / 10)).length + 1) = m + 1 - (dig (n / 10)).length), List.append_assoc]
theorem padd_split : ∀ s n, padd n (s + 1) = dig (n / 10 ^ s) ++ lastd s n
  | 0, n => by rw [padd_one]; unfold lastd; rw [List.append_nil, Nat.pow_zero, Nat.div_one]
  | s + 1, n => by
    rw [padd_step, padd_split s (n / 10), Nat.div_div_eq_div_mul, List.append_assoc]
    rw [(by rw [Nat.pow_succ, Nat.mul_comm] : 10 * 10 ^ s = 10 ^ (s + 1))]
    rfl
theorem pointed_eq (k : Int) (s : Nat) : pointed k s = (if k < 0 then [45] else []) ++ (dig (k.natAbs / 10 ^ s) ++ if s = 0 then [] else 46 :: lastd s k.natAbs) := by
  have e : pointed k s = (if k < 0 then [45] else []) ++ ((padd k.natAbs (s + 1)).take ((padd k.natAbs (s + 1)).length - s) ++ if s = 0 then [] else 46 :: (padd k.natAbs (s + 1)).drop ((padd k.natAbs (s + 1)).length - s)) := rfl
  rw [e, padd_split, List.length_append, lastd_len, Nat.add_sub_cancel, List.take_left, List.drop_left]
end My

end
section
namespace My
open Pipe
open PipePlace
def absI (i : Int) : Int := if i < 0 then -i else i
def lmb (a : L2I) : Bool := decide (absI a.1 ≤ 1099511627776) && decide (absI a.2 ≤ 1099511627776)
theorem lmb_eq (p q : Int) : lmb (p, q) = Len.fine ⟨p, q⟩ := by
  rw [Bool.eq_iff_iff, fine_iff]
  unfold lmb absI
  rw [Bool.and_eq_true, decide_eq_true_iff, decide_eq_true_iff]
  dsimp only
  constructor
  · rintro ⟨h1, h2⟩
    split at h1 <;> split at h2 <;> omega
  · rintro ⟨h1, h2⟩
    constructor <;> split <;> omega
def rootI (q : Int) : Int := (rootOf (2 * q.natAbs * q.natAbs) : Nat)
theorem rootI_of (q x : Int) (h0 : 0 ≤ x) (h1 : x * x ≤ 2 * q * q) (ha : ∀ r : Int, r * r ≤ 2 * q * q → r ≤ x) : rootI q = x := by
  unfold rootI
  have e : ((2 * q.natAbs * q.natAbs : Nat) : Int) = 2 * q * q := by
    rw [Nat.mul_assoc, Int.natCast_mul, Int.natAbs_mul_self, Int.mul_assoc]; rfl
  refine rootOf_int _ x h0 (by rw [e]; exact h1) ?_
  rw [e]
  exact root_of_above _ _ h1 h0 ha
def floorP (p q : Int) : Int := if q < 0 then p - rootI (-q) - 1 else p + rootI q
theorem floorP_eq (p q : Int) : floorP p q = floorI p q := by
  unfold floorP floorI rootI
  rw [Int.natAbs_neg]
  dsimp only
  by_cases h : q < 0
  · rw [if_pos h, if_neg (by omega)]; omega
  · rw [if_neg h, if_pos (by omega)]
def downP (p q u : Int) : Int := floorP p q / u
def nearP (p q u : Int) : Int :=
  let f := downP (2 * p + u) (2 * q) (2 * u)
  if q = 0 ∧ (2 * p + u) % (2 * u) = 0 ∧ f % 2 = 1 then f - 1 else f
theorem sign_nil (x y : Int) (h : signI x y = 0) : x = 0 ∧ y = 0 := by unfold signI at h; grind
theorem near_ok (p q : Int) (n : Nat) (hn : 0 < n) : nearP (p * n) (q * n) 2000 = wholeOf ⟨p, q⟩ 2 n 2000 := by
  symm
  have hf := (floorI_div (2 * (p * n) + 2000) (2 * (q * n)) (2 * 2000) (downP (2 * (p * n) + 2000) (2 * (q * n)) (2 * 2000)) (by decide)).mp (by unfold downP; rw [floorP_eq])
  unfold nearP
  dsimp only
  generalize downP (2 * (p * n) + 2000) (2 * (q * n)) (2 * 2000) = f at *
  obtain ⟨f1, f2⟩ := hf
  have e0 : ∀ k : Int, 2 * p * (n : Int) - (2 * k - 1) * ((2000 : Nat) : Int) = 2 * (p * n) + 2000 - k * (2 * 2000) := fun k => by
    rw [Int.mul_assoc 2 p]; show _ - (2 * k - 1) * 2000 = _; omega
  have e1 : ∀ k : Int, 2 * p * (n : Int) - (2 * k + 1) * ((2000 : Nat) : Int) = 2 * (p * n) + 2000 - (k + 1) * (2 * 2000) := fun k => by
    rw [Int.mul_assoc 2 p]; show _ - (2 * k + 1) * 2000 = _; omega
  have e2 : 2 * q * (n : Int) = 2 * (q * n) := Int.mul_assoc _ _ _
  by_cases ht : q * n = 0 ∧ (2 * (p * n) + 2000) % (2 * 2000) = 0 ∧ f % 2 = 1
  · rw [if_pos ht]
    obtain ⟨t1, t2, t3⟩ := ht
    rw [t1] at f1 f2 e2
    have g1 : 0 ≤ 2 * (p * n) + 2000 - f * (2 * 2000) := by rw [signI_ge] at f1; omega
    have g2 : 2 * (p * n) + 2000 - (f + 1) * (2 * 2000) < 0 := by
      apply Int.not_le.mp; intro hc
      have : 0 ≤ signI (2 * (p * n) + 2000 - (f + 1) * (2 * 2000)) (2 * 0) := by rw [signI_ge]; omega
      omega
    have g3 : 2 * (p * n) + 2000 - f * (2 * 2000) = 0 := by omega
    refine near_char p q n 2000 hn (by decide) (f - 1) ?_ ?_ ?_
    · rw [e0, e2, signI_ge]; omega
    · rw [e1, e2]
      have : 2 * (p * n) + 2000 - (f - 1 + 1) * (2 * 2000) = 0 := by omega
      rw [this]; decide
    · intro _; omega
  · rw [if_neg ht]
    refine near_char p q n 2000 hn (by decide) f ?_ ?_ ?_
    · rw [e0, e2]; exact f1
    · rw [e1, e2]; omega
    · rw [e0, e1, e2]
      rintro (h | h)
      · obtain ⟨z1, z2⟩ := sign_nil _ _ h
        have t1 : q * n = 0 := by omega
        have t2 : (2 * (p * n) + 2000) % (2 * 2000) = 0 := by omega
        rcases (by omega : f % 2 = 0 ∨ f % 2 = 1) with h | h
        · exact h
        · exact absurd ⟨t1, t2, h⟩ ht
      · omega
end My

end
section
namespace My
open Pipe
open PipePlace
def Sz (n : Nat) (i : Int) : Prop := i.natAbs < 2 ^ n
theorem sz_mono {n m : Nat} {i : Int} (h : Sz n i) (hm : n ≤ m) : Sz m i := Nat.lt_of_lt_of_le h (Nat.pow_le_pow_right (by decide) hm)
theorem sz_add {n m : Nat} {i j : Int} (h : Sz n i) (h' : Sz n j) (hm : n + 1 ≤ m) : Sz m (i + j) := by
  refine sz_mono (n := n + 1) ?_ hm
  unfold Sz at *
  rw [Nat.pow_succ]; omega
theorem sz_sub {n m : Nat} {i j : Int} (h : Sz n i) (h' : Sz n j) (hm : n + 1 ≤ m) : Sz m (i - j) := by
  refine sz_mono (n := n + 1) ?_ hm
  unfold Sz at *
  rw [Nat.pow_succ]; omega
theorem sz_neg {n : Nat} {i : Int} (h : Sz n i) : Sz n (-i) := by unfold Sz at *; omega
theorem sz_mul {n k m : Nat} {i j : Int} (h : Sz n i) (h' : Sz k j) (hm : n + k ≤ m) : Sz m (i * j) := by
  refine sz_mono (n := n + k) ?_ hm
  unfold Sz at *
  rw [Int.natAbs_mul, Nat.pow_add]
  exact Nat.mul_lt_mul'' h h'
theorem sz_of {n k : Nat} {i : Int} (h : i.natAbs ≤ k) (hk : k < 2 ^ n) : Sz n i := Nat.lt_of_le_of_lt h hk
theorem sz_div {n : Nat} {i j : Int} (h : Sz n i) (hj : 0 < j) : Sz (n + 1) (i / j) := by
  have h1 : -(2 ^ n : Nat) ≤ i / j := by
    apply Int.le_ediv_of_mul_le hj
    unfold Sz at h
    have : (2 ^ n : Nat) * 1 ≤ (2 ^ n : Nat) * j.toNat := Nat.mul_le_mul (Nat.le_refl _) (by omega)
    have e : -((2 ^ n : Nat) : Int) * j = -(((2 ^ n * j.toNat : Nat)) : Int) := by
      rw [Int.natCast_mul, Int.toNat_of_nonneg (by omega)]; grind
    omega
  have h2 : i / j ≤ (2 ^ n : Nat) := by
    apply Int.ediv_le_of_le_mul hj
    unfold Sz at h
    have : (2 ^ n : Nat) * 1 ≤ (2 ^ n : Nat) * j.toNat := Nat.mul_le_mul (Nat.le_refl _) (by omega)
    have e : ((2 ^ n : Nat) : Int) * j = (((2 ^ n * j.toNat : Nat)) : Int) := by
      rw [Int.natCast_mul, Int.toNat_of_nonneg (by omega)]
    omega
  unfold Sz
  rw [Nat.pow_succ]
  have := Nat.two_pow_pos n
  omega
def SzL (n : Nat) (a : L2I) : Prop := Sz n a.1 ∧ Sz n a.2
theorem sz_two {n : Nat} (h : 2 ≤ n) : Sz n 2 := sz_mono (n := 2) (by unfold Sz; decide) h
theorem sz_lmb {a : L2I} (h : lmb a = true) : SzL 41 a := by
  unfold lmb at h
  rw [Bool.and_eq_true, decide_eq_true_iff, decide_eq_true_iff] at h
  unfold absI at h
  refine ⟨sz_of (k := 1099511627776) ?_ (by decide), sz_of (k := 1099511627776) ?_ (by decide)⟩
  · have := h.1; split at this <;> omega
  · have := h.2; split at this <;> omega
end My

end
section
section
set_option Elab.async false
set_option linter.all false
set_option maxRecDepth 100000
namespace L2
open PySem PySem.Spec PyProof.Rows

abbrev Key := Sum Int Str
def keyIs : Key → Value → Bool
  | .inl k, v => Value.isInt k v
  | .inr x, v => Value.isStrOf x v
def keyH (w : World) : Key → Int
  | .inl k => hashInt k
  | .inr x => hashStr w x
theorem keyIs_shape : ∀ {k : Key} {v : Value}, keyIs k v = true → (∃ i t, k = Sum.inl i ∧ v = Value.int i t) ∨ (∃ x t, k = Sum.inr x ∧ v = Value.str x t)
  | .inl i, v, h => by
    obtain ⟨t, e⟩ := Value.isInt_shape (k := i) (v := v) h
    exact .inl ⟨i, t, rfl, e⟩
  | .inr x, v, h => by
    obtain ⟨t, e⟩ := Value.isStrOf_shape (x := x) (v := v) h
    exact .inr ⟨x, t, rfl, e⟩
theorem key_ll (a b : Int) : decide ((Sum.inl a : Key) = Sum.inl b) = (a == b) := by
  by_cases e : a = b
  · subst e; simp
  · have h : ¬ (Sum.inl a : Key) = Sum.inl b := fun q => e (Sum.inl.inj q)
    rw [decide_eq_false h]
    exact (beq_eq_false_iff_ne.mpr e).symm
theorem key_rr (a b : Str) : decide ((Sum.inr a : Key) = Sum.inr b) = decide (a = b) := by
  by_cases e : a = b
  · subst e; simp
  · have h : ¬ (Sum.inr a : Key) = Sum.inr b := fun q => e (Sum.inr.inj q)
    rw [decide_eq_false h, decide_eq_false e]
theorem key_lr (a : Int) (b : Str) : decide ((Sum.inl a : Key) = Sum.inr b) = false := decide_eq_false (fun q => nomatch q)
theorem key_rl (a : Str) (b : Int) : decide ((Sum.inr a : Key) = Sum.inl b) = false := decide_eq_false (fun q => nomatch q)

def mixKind (prog : Program) (w : World) : PySem.KeyKind prog w Key where
  is := keyIs
  hash := keyH w
  inj := fun v a b ha hb => by
    rcases keyIs_shape ha with ⟨i, t, rfl, rfl⟩ | ⟨x, t, rfl, rfl⟩
    · rcases keyIs_shape hb with ⟨j, u, rfl, e⟩ | ⟨y, u, rfl, e⟩
      · injection e with e1 _; rw [e1]
      · exact nomatch e
    · rcases keyIs_shape hb with ⟨j, u, rfl, e⟩ | ⟨y, u, rfl, e⟩
      · exact nomatch e
      · injection e with e1 _; rw [e1]
  byValue := fun k v h => by
    rcases keyIs_shape h with ⟨i, t, rfl, rfl⟩ | ⟨x, t, rfl, rfl⟩ <;> rfl
  pyHash := fun hv h => by
    rcases keyIs_shape hv with ⟨i, t, rfl, rfl⟩ | ⟨x, t, rfl, rfl⟩
    · exact wpAny_pyHash_int h
    · exact wpAny_pyHash_str h
  eqBool := fun hu hv h => by
    rcases keyIs_shape hu with ⟨i, t, rfl, rfl⟩ | ⟨x, t, rfl, rfl⟩
    · rcases keyIs_shape hv with ⟨j, u, rfl, rfl⟩ | ⟨y, u, rfl, rfl⟩
      · rw [key_ll] at h; exact wpAny_eqBool_int h
      · rw [key_lr] at h; exact SeqAt.EqAt.int_str i t y u _ _ _ _ h
    · rcases keyIs_shape hv with ⟨j, u, rfl, rfl⟩ | ⟨y, u, rfl, rfl⟩
      · rw [key_rl] at h; exact SeqAt.EqAt.str_int x t j u _ _ _ _ h
      · rw [key_rr] at h; exact wpAny_eqBool_str h
  «strs» := fun k x t v h => by
    rcases keyIs_shape h with ⟨i, u, rfl, e⟩ | ⟨y, u, rfl, e⟩
    · exact nomatch e
    · injection e with e1 _
      subst e1
      cases v <;> rfl

end L2

namespace L2
open PySem PySem.Spec PyProof.Rows

inductive V where
  | non | bl (b : Bool) | int (i : Int) | str (x : Str) | byt (b : Array UInt8) | flt (b : UInt64) | ref (a : Addr) | ty (n : String)
  deriving DecidableEq

def RelV : V → Value → Prop
  | .non, u => u = Value.none
  | .bl b, u => u = Value.bool b
  | .int i, u => ∃ t, u = Value.int i t
  | .str x, u => ∃ t, u = Value.str x t
  | .byt b, u => ∃ t, u = Value.bytes b t
  | .flt b, u => ∃ t, u = Value.float b t
  | .ref a, u => u = Value.ref a
  | .ty n, u => u = Value.type n

abbrev Vals : List V → List Value → Prop := Paired RelV
theorem Vals.length {xs : List V} {us : List Value} (r : Vals xs us) : xs.length = us.length := Paired.length r
theorem Vals.get : ∀ {xs : List V} {us : List Value} {i : Nat} {x : V}, Vals xs us → xs[i]? = some x → ∃ u, us[i]? = some u ∧ RelV x u
  | _, _, _, _, .nil, e => by simp at e
  | _, _, 0, _, .cons r _, e => by simp at e; subst e; exact ⟨_, rfl, r⟩
  | _, _, i + 1, x, .cons _ t, e => by
    obtain ⟨u, h1, h2⟩ := Vals.get (i := i) (x := x) t (by simpa using e)
    exact ⟨u, by simpa using h1, h2⟩
theorem Vals.set {x : V} {u : Value} (r : RelV x u) : ∀ {xs : List V} {us : List Value} (i : Nat), Vals xs us → Vals (xs.set i x) (us.set i u)
  | _, _, _, .nil => .nil
  | _, _, 0, .cons _ t => .cons r t
  | _, _, i + 1, .cons q t => .cons q (Vals.set r i t)
theorem Vals.append : ∀ {xs ys : List V} {us ws : List Value}, Vals xs us → Vals ys ws → Vals (xs ++ ys) (us ++ ws)
  | _, _, _, _, .nil, s => s
  | _, _, _, _, .cons r t, s => .cons r (Vals.append t s)
theorem Vals.take : ∀ {xs : List V} {us : List Value} (n : Nat), Vals xs us → Vals (xs.take n) (us.take n)
  | _, _, 0, _ => .nil
  | _, _, _ + 1, .nil => .nil
  | _, _, n + 1, .cons r t => .cons r (Vals.take n t)
theorem Vals.drop : ∀ {xs : List V} {us : List Value} (n : Nat), Vals xs us → Vals (xs.drop n) (us.drop n)
  | _, _, 0, r => r
  | _, _, _ + 1, .nil => .nil
  | _, _, n + 1, .cons _ t => Vals.drop n t
def RelO : Option V → Option Value → Prop
  | some v, some u => RelV v u
  | none, none => True
  | _, _ => False
def KV {κ : Type} : List (κ × V) → List (κ × Value) → Prop := Paired fun (p : κ × V) (q : κ × Value) => p.1 = q.1 ∧ RelV p.2 q.2

def kV : Key → V
  | .inl i => .int i
  | .inr x => .str x

inductive HO where
  /-- a list -/
  | lst (xs : List V)
  /-- a tuple (never changes) -/
  | tup (xs : List V)
  /-- a dict whose keys are ints and texts; one whose keys are tuples of ints and texts (the empty one is both) -/
  | dK (kvs : List (Key × V)) | dT (kvs : List (List Key × V))
  /-- a set of ints: its members, its size -/
  | set (S : Int → Bool) (n : Nat)
  /-- an instance of the class at C, its dict at dx, its attributes -/
  | ins (C dx : Addr) (fs : List (Str × V))
  /-- the dict of the instance at x -/
  | own (x : Addr)
  /-- the dict of an exception -/
  | xd (fs : List (Str × V))
  /-- a bound method, f of x -/
  | met (f x : Addr)
  /-- a range object lo, lo + 1, .. below hi -/
  | rng (lo hi : Int)
  /-- a thing that is known to the object (the script; a dict while a loop walks it): read, never written while it is so -/
  | frz (o : Obj) (u : HO)
  /-- a code object's table -/
  | tbl (ps : Array Value)
  /-- any other thing, by what is true of its one object (a def of one's own: SetO a S n := HO.ext fun h => ..) -/
  | ext (φ : Heap → Prop)

abbrev Hp := Addr → Option HO
def upd (H : Hp) (a : Addr) (o : HO) : Hp := fun b => if b = a then some o else H b
theorem upd_same {H : Hp} {a : Addr} {o : HO} : upd H a o a = some o := by unfold upd; rw [if_pos rfl]
theorem upd_ne {H : Hp} {a b : Addr} {o : HO} (h : b ≠ a) : upd H a o b = H b := by unfold upd; rw [if_neg h]
theorem ne_of {H : Hp} {a b : Addr} {o u : HO} (h : H a = some o) (h' : H b = some u) (d : o ≠ u) : a ≠ b := by
  intro e; subst e; rw [h] at h'; exact d (Option.some.inj h')
theorem ne_of_none {H : Hp} {a b : Addr} {o : HO} (h : H a = some o) (h' : H b = none) : a ≠ b := by
  intro e; subst e; rw [h] at h'; cases h'

section
variable (P : Program) (w : World)
def ObjOk (H : Hp) (h : Heap) (a : Addr) : HO → Prop
  | .lst xs => xs.length ≤ sizeLine ∧ ∃ (its : List Value) (n : Nat), Vals xs its ∧ h.get? a = some { cls := .type "list", data := .seq its.toArray n }
  | .tup xs => xs.length ≤ sizeLine ∧ ∃ its : List Value, Vals xs its ∧ IsTup h a its.toArray
  | .dK kvs => kvs.length ≤ sizeLine ∧ (a == sysModules) = false ∧ ∃ vs, KV kvs vs ∧ h.DictOf (mixKind P w) a vs
  | .dT kvs => kvs.length ≤ sizeLine ∧ (a == sysModules) = false ∧ ∃ xs : List (List Key × Addr × Value),
      Paired (fun (p : List Key × V) (q : List Key × Addr × Value) => p.1 = q.1 ∧ H q.2.1 = some (.tup (p.1.map kV)) ∧ RelV p.2 q.2.2) kvs xs ∧
      ∃ o es ep, h.get? a = some o ∧ o.ExactDict ∧ o.data = .dict es ep ∧ es.toList = xs.map (entryOfKey (tupleKind (mixKind P w))) ∧ (xs.map (·.1)).Nodup
  | .set S n => h.SetOf (intKind P w) a S n
  | .ins C dx fs => H dx = some (.own a) ∧ fs.length ≤ 1000 ∧ dx ≠ a ∧ h.get? a = some (PySem.W.instObj C dx) ∧
      ∃ mA, h.Ns1 dx mA ∧ (∀ f, RelO (fs.lookup f) (mA f)) ∧ PySem.Within mA (fs.map (·.1))
  | .own _ => ∃ o, h.get? a = some o
  | .xd fs => ∃ mA, h.Ns1 a mA ∧ ∀ f, RelO (fs.lookup f) (mA f)
  | .rng lo hi => ∃ t u v, h.get? a = some { cls := .type "range", data := .fields #[.int lo t, .int hi u, .int 1 v] }
  | .frz o u => h.get? a = some o ∧ ObjOk H h a u
  | .tbl ps => h.get? a = some { cls := .none, data := .fields ps }
  | .met f x => h.get? a = some (PySem.W.methodObj (.ref f) (.ref x))
  | .ext φ => φ h ∧ (∃ o, h.get? a = some o) ∧ ∀ h1 h2 : Heap, φ h1 → (∀ o, h1.get? a = some o → h2.get? a = some o) → φ h2
def HOk (H : Hp) (h : Heap) : Prop := ∀ a o, H a = some o → ObjOk P w H h a o
end

section
variable {P : Program} {w : World} {H H' : Hp} {h h' : Heap} {a : Addr} {o : HO}
theorem ObjOk.lt (x : ObjOk P w H h a o) : a < h.objs.size := by
  cases o with
  | lst xs => obtain ⟨_, _, _, _, e⟩ := x; exact Heap.lt_size e
  | tup xs => obtain ⟨_, _, _, p⟩ := x; exact p.lt
  | dK kvs => obtain ⟨_, _, _, _, o, _, _, e, _⟩ := x; exact Heap.lt_size e
  | dT kvs => obtain ⟨_, _, _, _, o, _, _, e, _⟩ := x; exact Heap.lt_size e
  | set S n => obtain ⟨o, _, _, _, e, _⟩ := x; exact Heap.lt_size e
  | ins C dx fs => obtain ⟨_, _, _, e, _⟩ := x; exact Heap.lt_size e
  | own y => obtain ⟨_, e⟩ := x; exact Heap.lt_size e
  | xd fs => obtain ⟨_, ⟨_, _, _, e, _⟩, _⟩ := x; exact Heap.lt_size e
  | rng lo hi => obtain ⟨_, _, _, e⟩ := x; exact Heap.lt_size e
  | frz ob u => obtain ⟨e, _⟩ := x; exact Heap.lt_size e
  | tbl ps => exact Heap.lt_size (show h.get? a = some _ from x)
  | met f y => exact Heap.lt_size (show h.get? a = some _ from x)
  | ext φ => obtain ⟨_, ⟨_, e⟩, _⟩ := x; exact Heap.lt_size e
theorem Paired.mapP {α β : Type} {F G : α → β → Prop} : ∀ {l₁ : List α} {l₂ : List β}, Paired F l₁ l₂ → (∀ a b, F a b → G a b) → Paired G l₁ l₂
  | _, _, .nil, _ => .nil
  | _, _, .cons r t, f => .cons (f _ _ r) (Paired.mapP t f)
theorem ObjOk.stay (x : ObjOk P w H h a o) (k : ∀ b u, (b = a ∨ H b = some (.own a)) → h.get? b = some u → h'.get? b = some u)
    (ho : ∀ b, H b = some (.own a) → H' b = some (.own a)) (ht : ∀ b xs, H b = some (.tup xs) → H' b = some (.tup xs)) : ObjOk P w H' h' a o := by
  induction o with
  | lst xs => obtain ⟨z, its, n, r, e⟩ := x; exact ⟨z, its, n, r, k _ _ (.inl rfl) e⟩
  | tup xs => obtain ⟨z, its, r, ob, e, c⟩ := x; exact ⟨z, its, r, ob, k _ _ (.inl rfl) e, c⟩
  | dK kvs => obtain ⟨z, y, vs, r, ob, es, ep, e, c⟩ := x; exact ⟨z, y, vs, r, ob, es, ep, k _ _ (.inl rfl) e, c⟩
  | dT kvs =>
    obtain ⟨z, y, xs, r, ob, es, ep, e, c⟩ := x
    exact ⟨z, y, xs, Paired.mapP r fun p q z => ⟨z.1, ht _ _ z.2.1, z.2.2⟩, ob, es, ep, k _ _ (.inl rfl) e, c⟩
  | set S n => obtain ⟨ob, es, ep, t, e, c⟩ := x; exact ⟨ob, es, ep, t, k _ _ (.inl rfl) e, c⟩
  | ins C dx fs =>
    obtain ⟨d, z, ne, e, mA, ⟨od, es, ep, e2, c⟩, r⟩ := x
    exact ⟨ho _ d, z, ne, k _ _ (.inl rfl) e, mA, ⟨od, es, ep, k _ _ (.inr d) e2, c⟩, r⟩
  | own y => obtain ⟨ob, e⟩ := x; exact ⟨ob, k _ _ (.inl rfl) e⟩
  | xd fs => obtain ⟨mA, ⟨od, es, ep, e, c⟩, r⟩ := x; exact ⟨mA, ⟨od, es, ep, k _ _ (.inl rfl) e, c⟩, r⟩
  | rng lo hi => obtain ⟨t, u, v, e⟩ := x; exact ⟨t, u, v, k _ _ (.inl rfl) e⟩
  | frz ob u ih => obtain ⟨e, q⟩ := x; exact ⟨k _ _ (.inl rfl) e, ih q⟩
  | tbl ps =>
    have e : h.get? a = some { cls := .none, data := .fields ps } := x
    show h'.get? a = some { cls := .none, data := .fields ps }
    exact k a _ (.inl rfl) e
  | met f y =>
    have e : h.get? a = some (PySem.W.methodObj (.ref f) (.ref y)) := x
    show h'.get? a = some (PySem.W.methodObj (.ref f) (.ref y))
    exact k a _ (.inl rfl) e
  | ext φ => obtain ⟨p, ⟨o, e⟩, st⟩ := x; exact ⟨st _ _ p fun o q => k _ _ (.inl rfl) q, ⟨o, k _ _ (.inl rfl) e⟩, st⟩
theorem HOk.lt (x : HOk P w H h) (e : H a = some o) : a < h.objs.size := (x a o e).lt
theorem HOk.fresh (x : HOk P w H h) (e : h.objs.size ≤ a) : H a = none := by
  cases q : H a with
  | none => rfl
  | some u => exact absurd (Nat.lt_of_lt_of_le (x.lt q) e) (Nat.lt_irrefl _)
theorem HOk.kept (x : HOk P w H h) (k : ∀ b u, h.get? b = some u → h'.get? b = some u) : HOk P w H h' := fun a o e =>
  (x a o e).stay (fun b u _ q => k b u q) (fun _ q => q) fun _ _ q => q
theorem HOk.laid (x : HOk P w H h) (k : ∀ b u, h.get? b = some u → h'.get? b = some u) (hp : h.objs.size ≤ a) (new : ObjOk P w (upd H a o) h' a o) : HOk P w (upd H a o) h' := fun b u e => by
  have hn := x.fresh hp
  by_cases hb : b = a
  · subst hb; rw [upd_same] at e; cases e; exact new
  · rw [upd_ne hb] at e
    exact (x b u e).stay (fun c v _ q => k c v q) (fun c q => by rw [upd_ne (ne_of_none q hn)]; exact q) fun c xs q => by rw [upd_ne (ne_of_none q hn)]; exact q
end

def Rd (H : Hp) (a : Addr) (u : HO) : Prop := H a = some u ∨ ∃ o, H a = some (.frz o u)
theorem Rd.of {H : Hp} {a : Addr} {u : HO} (h : H a = some u) : Rd H a u := .inl h
theorem Rd.ok {P : Program} {w : World} {H : Hp} {h : Heap} {a : Addr} {u : HO} (r : Rd H a u) (x : HOk P w H h) : ObjOk P w H h a u := by
  rcases r with r | ⟨o, r⟩
  · exact x a u r
  · obtain ⟨_, q⟩ := x a _ r
    exact q
def Mut : Option HO → Prop
  | some (.lst _) => True
  | some (.dK _) => True
  | some (.dT _) => True
  | some (.set _ _) => True
  | some (.ins _ _ _) => True
  | some (.ext _) => True
  | _ => False
section
variable {P : Program} {w : World} {H : Hp} {h h' : Heap} {x e : Addr} {o' : HO}
theorem HOk.write (ok : HOk P w H h) (mu : Mut (H x)) (he : e = x ∨ H e = some (.own x)) (k : ∀ b u, b ≠ e → h.get? b = some u → h'.get? b = some u) (heo : ∃ u, h'.get? e = some u)
    (new : ObjOk P w (upd H x o') h' x o') : HOk P w (upd H x o') h' := fun b u q => by
  have nown : ∀ c y, H c = some (.own y) → c ≠ x := fun c y r z => by subst z; rw [r] at mu; exact mu
  have ntup : ∀ c xs, H c = some (.tup xs) → c ≠ x := fun c xs r z => by subst z; rw [r] at mu; exact mu
  by_cases hb : b = x
  · subst hb; rw [upd_same] at q; cases q; exact new
  · rw [upd_ne hb] at q
    by_cases hbe : b = e
    · have q' : H b = some (.own x) := by
        rcases he with z | z
        · exact absurd (hbe.trans z) hb
        · rw [hbe]; exact z
      rw [q] at q'; cases q'
      obtain ⟨v, hv⟩ := heo
      exact ⟨v, by rw [hbe]; exact hv⟩
    · refine (ok b u q).stay (fun c v hc r => k c v ?_ r) (fun c r => by rw [upd_ne (nown c b r)]; exact r) fun c xs r => by rw [upd_ne (ntup c xs r)]; exact r
      rcases hc with rfl | hc
      · exact hbe
      · rintro rfl
        rcases he with z | z
        · exact nown c b hc z
        · rw [hc] at z; cases z; exact hb rfl
end

structure Un (fs ex : List Addr) (H H' : Hp) (h h' : Heap) : Prop where
  keep : ∀ b o, h.get? b = some o → H b = none → b ∉ fs → b ∉ ex → h'.get? b = some o
  slot : ∀ b o, h.get? b = some o → H b = none → b ∈ fs → b ∉ ex → ∃ sl, h'.get? b = some { o with slots := sl }
  free : ∀ b o, h.get? b = some o → H b = none → b ∉ ex → H' b = none
  there : ∀ b o, h.get? b = some o → b ∉ ex → ∃ o', h'.get? b = some o'
  tups : ∀ b xs, H b = some (.tup xs) → H' b = some (.tup xs)
  frzs : ∀ b o u, H b = some (.frz o u) → H' b = some (.frz o u)
  tbls : ∀ b ps, H b = some (.tbl ps) → ∃ more, H' b = some (.tbl (ps ++ more))
section
variable {fs fs' ex ex' : List Addr} {H H1 H2 : Hp} {h h1 h2 h' : Heap} {a x e : Addr} {o : HO}
theorem Un.any (u : Un fs ex H H1 h h1) {b : Addr} {ob : Obj} (q : h.get? b = some ob) (n : H b = none) (hx : b ∉ ex) : ∃ sl, h1.get? b = some { ob with slots := sl } := by
  by_cases hb : b ∈ fs
  · exact u.slot b ob q n hb hx
  · exact ⟨ob.slots, u.keep b ob q n hb hx⟩
theorem Un.trans (a : Un fs ex H H1 h h1) (b : Un fs ex H1 H2 h1 h2) : Un fs ex H H2 h h2 where
  keep := fun c ob q n hc hx => b.keep c ob (a.keep c ob q n hc hx) (a.free c ob q n hx) hc hx
  slot := fun c ob q n hc hx => by
    obtain ⟨sl, e1⟩ := a.slot c ob q n hc hx
    obtain ⟨sl', e2⟩ := b.slot c _ e1 (a.free c ob q n hx) hc hx
    exact ⟨sl', e2⟩
  free := fun c ob q n hx => by
    obtain ⟨o', e1⟩ := a.there c ob q hx
    exact b.free c o' e1 (a.free c ob q n hx) hx
  there := fun c ob q hx => by
    obtain ⟨o', e1⟩ := a.there c ob q hx
    exact b.there c o' e1 hx
  tups := fun c xs q => b.tups c xs (a.tups c xs q)
  frzs := fun c ob xs q => b.frzs c ob xs (a.frzs c ob xs q)
  tbls := fun c ps q => by
    obtain ⟨m1, e1⟩ := a.tbls c ps q
    obtain ⟨m2, e2⟩ := b.tbls c _ e1
    exact ⟨m1 ++ m2, by rw [e2, Array.append_assoc]⟩
theorem Un.kept (k : ∀ b u, h.get? b = some u → h'.get? b = some u) : Un fs ex H H h h' :=
  ⟨fun b ob q _ _ _ => k b ob q, fun b ob q _ _ _ => ⟨ob.slots, k b ob q⟩, fun _ _ _ n _ => n, fun b ob q _ => ⟨ob, k b ob q⟩, fun _ _ q => q, fun _ _ _ q => q, fun _ ps q => ⟨#[], by rw [q]; simp⟩⟩
theorem Un.refl : Un fs ex H H h h := Un.kept fun _ _ q => q
theorem Un.laid (k : ∀ b u, h.get? b = some u → h'.get? b = some u) (hp : h.objs.size ≤ a) (hn : H a = none) : Un fs ex H (upd H a o) h h' where
  keep := fun b u q _ _ _ => k b u q
  slot := fun b u q _ _ _ => ⟨u.slots, k b u q⟩
  free := fun b u q n _ => by rw [upd_ne (Nat.ne_of_lt (Nat.lt_of_lt_of_le (Heap.lt_size q) hp))]; exact n
  there := fun b u q _ => ⟨u, k b u q⟩
  tups := fun b xs q => by rw [upd_ne (ne_of_none q hn)]; exact q
  frzs := fun b u xs q => by rw [upd_ne (ne_of_none q hn)]; exact q
  tbls := fun b ps q => ⟨#[], by rw [upd_ne (ne_of_none q hn), q]; simp⟩
theorem Un.write (mu : Mut (H x)) (he : e = x ∨ H e = some (.own x)) (k : ∀ b u, b ≠ e → h.get? b = some u → h'.get? b = some u) (heo : ∃ u, h'.get? e = some u) : Un fs ex H (upd H x o) h h' := by
  have hx : ∀ b, H b = none → b ≠ x := fun b n z => by subst z; rw [n] at mu; exact mu
  have hb : ∀ b, H b = none → b ≠ e := fun b n z => by
    subst z
    rcases he with r | r
    · exact hx b n r
    · rw [n] at r; cases r
  have hm : ∀ b u, H b = some u → ¬ Mut (some u) → b ≠ x := fun b u q nm z => by subst z; rw [q] at mu; exact nm mu
  refine ⟨fun b u q n _ _ => k b u (hb b n) q, fun b u q n _ _ => ⟨u.slots, k b u (hb b n) q⟩, fun b u q n _ => by rw [upd_ne (hx b n)]; exact n, fun b u q _ => ?_,
    fun b xs q => by rw [upd_ne (hm b _ q fun z => z)]; exact q, fun b u xs q => by rw [upd_ne (hm b _ q fun z => z)]; exact q, fun b ps q => ⟨#[], by rw [upd_ne (hm b _ q fun z => z), q]; simp⟩⟩
  by_cases hbe : b = e
  · subst hbe; exact heo
  · exact ⟨u, k b u hbe q⟩
theorem Un.mono (u : Un fs ex H H1 h h1) (hs : ∀ b ∈ fs, b ∈ fs') (hx : ∀ b ∈ ex, b ∈ ex') : Un fs' ex' H H1 h h1 :=
  ⟨fun b ob q n hb he => u.keep b ob q n (fun z => hb (hs b z)) fun z => he (hx b z), fun _ _ q n _ he => u.any q n fun z => he (hx _ z), fun b ob q n he => u.free b ob q n fun z => he (hx b z), fun b ob q he => u.there b ob q fun z => he (hx b z), u.tups, u.frzs, u.tbls⟩
end

def trk (h : Heap) (H : Hp) : List Addr := (List.range h.objs.size).filter fun a => (H a).isSome
def hidT (h : Heap) (H : Hp) : Heap := PySem.W.hideAll h (trk h H)
theorem hidT_size (h : Heap) (H : Hp) : (hidT h H).objs.size = h.objs.size := PySem.W.hideAll_size _ _
theorem hidT_get {h : Heap} {H : Hp} {b : Addr} {o : Obj} (e : h.get? b = some o) (n : H b = none) : (hidT h H).get? b = some o :=
  PySem.W.hideAll_get _ e fun hm => by
    have q : (H b).isSome = true := (List.mem_filter.mp hm).2
    rw [n] at q; simp at q
theorem of_hidT {h : Heap} {H : Hp} {b : Addr} {o : Obj} (e : (hidT h H).get? b = some o) : h.get? b = some o ∧ H b = none := by
  have e' : h.get? b = some o := PySem.W.of_hideAll (trk h H) e
  refine ⟨e', ?_⟩
  cases q : H b with
  | none => rfl
  | some x =>
    have hm : b ∈ trk h H := List.mem_filter.mpr ⟨List.mem_range.mpr (Heap.lt_size e'), by simp [q]⟩
    have z : (hidT h H).get? b = none := PySem.W.hideAll_none (trk h H) hm
    rw [z] at e; cases e

def allNews (g h : Heap) (L : Addr) : List (Addr × Obj) := (List.range h.objs.size).filterMap fun a => if a = L ∨ (g.get? a).isSome = true then none else (h.get? a).map fun o => (a, o)
def rest (g h : Heap) (L d : Addr) : List (Addr × Obj) := (allNews g h L).filter fun p => decide (p.1 ≠ d)
end L2

namespace L2
open PySem PySem.Spec PyProof.Rows

structure Mod (K : PySem.W.Frag) (mg : Str → Option Value) (base : Heap) : Prop where
  kin : K.In base
  glob : base.Ns mainGlobals mg
  blt : ∃ mb, base.Ns builtinsNs mb ∧ ∀ x : Str, x ≠ "__name__" → mb x = bootBuiltins x
  nolimit : base.NoLimit

structure Cx where
  prog : Program
  w : World
  K : PySem.W.Frag
  mg : Str → Option Value
  base : Heap
  A : Around
  N : List Str
  s_0 : Shared
  H_0 : Hp
  env : Env
  outer : List Env
  stack : List Env
  ex : List Addr
  fn : Str → Bool
  calm : Bool
  pn : List (Addr × Obj)
  xe : Value → Shared → Prop
def frs (l : List Env) : List Addr := l.filterMap (·.frame)
abbrev Cx.fs (X : Cx) : List Addr := frs X.outer

def Vis (sc : Scope) (x : Str) : Prop := sc.names.lookup x = some .local ∨ sc.names.lookup x = some .cell ∨ sc.names.lookup x = some .free
def Loc (sc : Scope) (x : Str) : Prop := sc.names.lookup x = some .local ∨ sc.names.lookup x = some .cell
def Look (env : Env) (h : Heap) (m : Str → Option Value) (x : Str) (u : Value) : Prop :=
  (env.kindOf x = some .local ∧ m x = some u) ∨ ((env.kindOf x = some .cell ∨ env.kindOf x = some .free) ∧ ∃ c, env.cells.lookup x = some c ∧ h.IsCell c (some u))

structure Cx.Ok (X : Cx) : Prop where
  mod : Mod X.K X.mg X.base
  kind : X.env.scope.kind = .function
  glob : X.env.globals = mainGlobals
  blt : X.env.builtins = builtinsNs
  above : X.s_0.heap.objs.size ≤ X.env.locals
  inj : ∀ x y c, X.env.cells.lookup x = some c → X.env.cells.lookup y = some c → x = y
  has : ∀ x, (X.env.kindOf x = some .cell ∨ X.env.kindOf x = some .free) → ∃ c, X.env.cells.lookup x = some c
  cab : ∀ x c, X.fn x = true → X.env.cells.lookup x = some c → X.s_0.heap.objs.size ≤ c
  hd : X.calm = true → X.A.handled = none
  frames : X.A.frames = some X.stack
  stk : X.stack = X.outer ∨ (X.stack = X.env :: X.outer ∧ X.env.frame = some X.env.locals)
  exf : ∀ b ∈ X.ex, b ≠ X.env.locals ∧ ∀ x c, X.env.cells.lookup x = some c → c ≠ b
  bs : ∀ b o, X.base.get? b = some o → X.s_0.heap.get? b = some o ∧ X.H_0 b = none
  bsz : X.base.objs.size ≤ X.s_0.heap.objs.size
  noex : ∀ b o, X.base.get? b = some o → b ∉ X.ex
  exfs : ∀ b ∈ X.ex, b ∉ X.fs
  funs : X.s_0.heap.FunFrames X.base X.outer
  frf : ∀ b ∈ X.fs, X.H_0 b = none

structure Inv (X : Cx) (pins : List (Addr × Obj)) (σ : List (Option V)) (H : Hp) (s : Shared) : Prop where
  ok : X.Ok
  os : s.os = X.s_0.os
  bare : AllBare s.gens
  base : Un X.fs X.ex X.H_0 H X.s_0.heap s.heap
  loc : ∃ m, s.heap.Ns X.env.locals m ∧ ∀ (i : Nat) (x : Str) (v : V), X.N[i]? = some x → σ[i]? = some (some v) → Vis X.env.scope x → ∃ u, RelV v u ∧ Look X.env s.heap m x u
  cell : ∀ x c, X.env.cells.lookup x = some c → ∃ v, s.heap.IsCell c v
  free : H X.env.locals = none
  freeC : ∀ x c, X.env.cells.lookup x = some c → H c = none
  pin : ∀ p ∈ X.pn ++ pins, s.heap.get? p.1 = some p.2 ∧ H p.1 = none ∧ p.1 ≠ X.env.locals ∧ p.1 ∉ X.fs ∧ ∀ v, p.2.data ≠ .cell v
  hok : HOk X.prog X.w H s.heap
  len : σ.length = X.N.length

section
variable {X : Cx} {pins : List (Addr × Obj)} {σ : List (Option V)} {H H' : Hp} {s : Shared} {h' : Heap}

theorem Cx.Ok.nofr (ok : X.Ok) {b : Addr} {o : Obj} (e : X.base.get? b = some o) : b ∉ X.fs := fun hb => by
  have := (ok.funs.mem hb).1
  rw [e] at this; cases this
theorem Inv.bs (I : Inv X pins σ H s) : ∀ b o, X.base.get? b = some o → s.heap.get? b = some o ∧ H b = none := fun b o e =>
  ⟨I.base.keep b o (I.ok.bs b o e).1 (I.ok.bs b o e).2 (I.ok.nofr e) (I.ok.noex b o e), I.base.free b o (I.ok.bs b o e).1 (I.ok.bs b o e).2 (I.ok.noex b o e)⟩
theorem Inv.bk (I : Inv X pins σ H s) : ∀ b o, X.base.get? b = some o → s.heap.get? b = some o := fun b o e => (I.bs b o e).1
theorem Inv.mod (I : Inv X pins σ H s) : Mod X.K X.mg X.base := I.ok.mod
theorem Inv.kIn (I : Inv X pins σ H s) : X.K.In s.heap := I.ok.mod.kin.keeps I.bk
theorem Inv.nolimit (I : Inv X pins σ H s) : s.heap.NoLimit := I.ok.mod.nolimit.keeps I.bk
theorem Inv.fr (I : Inv X pins σ H s) : ∃ m, Fr X.base X.env.locals s.heap m :=
  let ⟨m, hn, _⟩ := I.loc
  ⟨m, hn, I.bk, Nat.le_trans I.ok.bsz I.ok.above⟩
theorem Inv.lt (I : Inv X pins σ H s) : X.env.locals < s.heap.objs.size := let ⟨_, hn, _⟩ := I.loc; hn.lt
theorem Inv.sz (I : Inv X pins σ H s) : X.s_0.heap.objs.size ≤ s.heap.objs.size := Nat.le_trans I.ok.above (Nat.le_of_lt I.lt)
theorem Inv.nofs (I : Inv X pins σ H s) {a : Addr} (h : s.heap.objs.size ≤ a) : a ∉ X.fs := fun hb => by
  obtain ⟨_, o, ho, _⟩ := I.ok.funs.mem hb
  exact absurd (Nat.lt_of_lt_of_le (Heap.lt_size ho) (Nat.le_trans I.sz h)) (Nat.lt_irrefl _)
theorem Inv.cne (I : Inv X pins σ H s) : ∀ x c, X.env.cells.lookup x = some c → c ≠ X.env.locals := fun x c e z => by
  obtain ⟨v, o, ho, hd⟩ := I.cell x c e
  obtain ⟨m, ⟨o', es, ep, ho', hd', _⟩, _⟩ := I.loc
  rw [z, ho'] at ho; cases ho; rw [hd'] at hd; cases hd
theorem Inv.funs (I : Inv X pins σ H s) : s.heap.FunFrames X.base X.outer := by
  have all : ∀ (l : List Env), (∀ b ∈ frs l, b ∈ X.fs) → X.s_0.heap.FunFrames X.base l → s.heap.FunFrames X.base l := by
    intro l
    induction l with
    | nil => intro _ _; trivial
    | cons env r ih =>
      intro hs hl
      obtain ⟨hk, ⟨L, o, hf, hn, ho, hd⟩, hr⟩ := hl
      have hL : L ∈ X.fs := hs L (by unfold frs; rw [List.filterMap_cons, hf]; exact List.mem_cons_self)
      obtain ⟨sl, e⟩ := I.base.slot L o ho (I.ok.frf L hL) hL fun z => I.ok.exfs L z hL
      exact ⟨hk, ⟨L, _, hf, hn, e, hd⟩, ih (fun b hb => hs b (by unfold frs; rw [List.filterMap_cons, hf]; exact List.mem_cons_of_mem _ hb)) hr⟩
  exact all X.outer (fun _ hb => hb) I.ok.funs

theorem Inv.stack (I : Inv X pins σ H s) : s.heap.FunFrames X.base X.stack := by
  rcases I.ok.stk with e | ⟨e, hf⟩
  · rw [e]; exact I.funs
  · rw [e]
    obtain ⟨m, hn, _⟩ := I.loc
    refine .cons (by rw [I.ok.kind]; decide) hf hn ?_ I.funs
    exact Heap.get?_none_of_le (Nat.le_trans I.ok.bsz I.ok.above)
theorem Inv.stkSub (I : Inv X pins σ H s) : ∀ b ∈ frs X.stack, b ∈ X.env.locals :: X.fs := fun b hb => by
  rcases I.ok.stk with e | ⟨e, hf⟩
  · rw [e] at hb; exact List.mem_cons_of_mem _ hb
  · rw [e] at hb
    unfold frs at hb
    rw [List.filterMap_cons, hf] at hb
    exact hb
theorem Inv.stkFree (I : Inv X pins σ H s) : ∀ b ∈ frs X.stack, H b = none := fun b hb => by
  rcases List.mem_cons.mp (I.stkSub b hb) with e | hb
  · rw [e]; exact I.free
  · obtain ⟨_, o, ho, _⟩ := I.ok.funs.mem hb
    exact I.base.free b o ho (I.ok.frf b hb) fun z => I.ok.exfs b z hb

theorem Inv.step {g' : Array GenState} {t' : Nat} {d' : Drawn} {ch : List Addr} (I : Inv X pins σ H s)
    (hch : ∀ b ∈ ch, (b ∈ X.ex ∨ X.s_0.heap.objs.size ≤ b) ∧ b ≠ X.env.locals ∧ (∀ x c, X.env.cells.lookup x = some c → c ≠ b) ∧ ∀ p ∈ X.pn ++ pins, p.1 ≠ b)
    (keep : ∀ b o, b ≠ X.env.locals → b ∉ X.fs → b ∉ ch → s.heap.get? b = some o → H b = none → h'.get? b = some o)
    (slot : ∀ b o, b ≠ X.env.locals → b ∈ X.fs → b ∉ ch → s.heap.get? b = some o → H b = none → ∃ sl, h'.get? b = some { o with slots := sl }) (free : ∀ b o, b ∉ ch → s.heap.get? b = some o → H b = none → H' b = none)
    (there : ∀ b o, b ∉ ch → s.heap.get? b = some o → ∃ o', h'.get? b = some o')
    (tups : ∀ b xs, H b = some (.tup xs) → H' b = some (.tup xs)) (frzs : ∀ b o u, H b = some (.frz o u) → H' b = some (.frz o u)) (tbls : ∀ b ps, H b = some (.tbl ps) → ∃ more, H' b = some (.tbl (ps ++ more)))
    (ns : ∀ m, s.heap.Ns X.env.locals m → h'.Ns X.env.locals m) (hok : HOk X.prog X.w H' h') (hg : AllBare g') :
    Inv X pins σ H' { s with heap := h', gens := g', drawn := d', toks := t' } := by
  have neL : ∀ b o, X.s_0.heap.get? b = some o → b ≠ X.env.locals := fun b o e => Nat.ne_of_lt (Nat.lt_of_lt_of_le (Heap.lt_size e) I.ok.above)
  have neC : ∀ b o, X.s_0.heap.get? b = some o → b ∉ X.ex → b ∉ ch := fun b o e hx hb => by
    rcases (hch b hb).1 with z | z
    · exact hx z
    · exact absurd (Nat.lt_of_lt_of_le (Heap.lt_size e) z) (Nat.lt_irrefl _)
  have cellK : ∀ x c, X.env.cells.lookup x = some c → ∀ v, s.heap.IsCell c v → h'.IsCell c v := fun x c e v ⟨o, ho, hd⟩ => by
    have nch : c ∉ ch := fun z => (hch c z).2.2.1 x c e rfl
    by_cases hc : c ∈ X.fs
    · obtain ⟨sl, q⟩ := slot c o (I.cne x c e) hc nch ho (I.freeC x c e)
      exact ⟨_, q, hd⟩
    · exact ⟨o, keep c o (I.cne x c e) hc nch ho (I.freeC x c e), hd⟩
  refine ⟨I.ok, I.os, hg, ⟨fun b o e n hb hx => ?_, fun b o e n hb hx => ?_, fun b o e n hx => ?_, fun b o e hx => ?_, fun b xs e => tups b xs (I.base.tups b xs e), fun b o xs e => frzs b o xs (I.base.frzs b o xs e), fun b ps e => ?_⟩, ?_, fun x c e => ?_, ?_, fun x c e => ?_, fun p hp => ?_, hok, I.len⟩
  · exact keep b o (neL b o e) hb (neC b o e hx) (I.base.keep b o e n hb hx) (I.base.free b o e n hx)
  · obtain ⟨sl, e1⟩ := I.base.slot b o e n hb hx
    obtain ⟨sl', e2⟩ := slot b _ (neL b o e) hb (neC b o e hx) e1 (I.base.free b o e n hx)
    exact ⟨sl', e2⟩
  · obtain ⟨o', e1⟩ := I.base.there b o e hx
    exact free b o' (neC b o e hx) e1 (I.base.free b o e n hx)
  · obtain ⟨o', e1⟩ := I.base.there b o e hx
    exact there b o' (neC b o e hx) e1
  · obtain ⟨m1, e1⟩ := I.base.tbls b ps e
    obtain ⟨m2, e2⟩ := tbls b _ e1
    exact ⟨m1 ++ m2, by rw [e2, Array.append_assoc]⟩
  · obtain ⟨m, hn, hl⟩ := I.loc
    refine ⟨m, ns m hn, fun i x v e1 e2 e3 => ?_⟩
    obtain ⟨u, r, l⟩ := hl i x v e1 e2 e3
    refine ⟨u, r, ?_⟩
    rcases l with l | ⟨k, c, e, z⟩
    · exact .inl l
    · exact .inr ⟨k, c, e, cellK x c e _ z⟩
  · obtain ⟨v, z⟩ := I.cell x c e
    exact ⟨v, cellK x c e v z⟩
  · obtain ⟨m, ⟨o, _, _, ho, _⟩, _⟩ := I.loc
    exact free _ o (fun z => (hch _ z).2.1 rfl) ho I.free
  · obtain ⟨v, o, ho, hd⟩ := I.cell x c e
    exact free c o (fun z => (hch c z).2.2.1 x c e rfl) ho (I.freeC x c e)
  · obtain ⟨e, n, ne, nf, d⟩ := I.pin p hp
    have nch : p.1 ∉ ch := fun z => (hch p.1 z).2.2.2 p hp rfl
    exact ⟨keep p.1 p.2 ne nf nch e n, free p.1 p.2 nch e n, ne, nf, d⟩
theorem Inv.un {t' : Nat} (I : Inv X pins σ H s) (u : Un X.fs [] H H' s.heap h') (hok : HOk X.prog X.w H' h') : Inv X pins σ H' { s with heap := h', toks := t' } := by
  obtain ⟨m, ⟨o, es, ep, ho, r⟩, _⟩ := id I.loc
  obtain ⟨sl, hL⟩ := u.any ho I.free (by simp)
  exact I.step (g' := s.gens) (d' := s.drawn) (ch := []) (fun _ z => nomatch z) (fun b o _ hb _ e n => u.keep b o e n hb (by simp)) (fun b o _ hb _ e n => u.slot b o e n hb (by simp)) (fun b o _ e n => u.free b o e n (by simp)) (fun b o _ e => u.there b o e (by simp)) u.tups u.frzs u.tbls (fun m' hm => by
    obtain ⟨o', es', ep', ho', r'⟩ := hm
    rw [ho] at ho'; cases ho'
    exact ⟨_, es', ep', hL, r'⟩) hok I.bare
theorem Inv.call {g' : Array GenState} {t' : Nat} {d' : Drawn} {ch : List Addr} (I : Inv X pins σ H s) (u : Un (frs X.stack) ch H H' s.heap h') (hok : HOk X.prog X.w H' h') (hg : AllBare g')
    (hch : ∀ b ∈ ch, (b ∈ X.ex ∨ X.s_0.heap.objs.size ≤ b) ∧ b ≠ X.env.locals ∧ (∀ x c, X.env.cells.lookup x = some c → c ≠ b) ∧ ∀ p ∈ X.pn ++ pins, p.1 ≠ b) :
    Inv X pins σ H' { s with heap := h', gens := g', drawn := d', toks := t' } := by
  obtain ⟨m, ⟨o, es, ep, ho, r⟩, _⟩ := id I.loc
  obtain ⟨sl, hL⟩ := u.any ho I.free fun z => (hch _ z).2.1 rfl
  exact I.step (ch := ch) hch (fun b o hL hb hc e n => u.keep b o e n (fun z => (List.mem_cons.mp (I.stkSub b z)).elim hL hb) hc) (fun b o _ _ hc e n => u.any e n hc) (fun b o hc e n => u.free b o e n hc) (fun b o hc e => u.there b o e hc) u.tups u.frzs u.tbls (fun m' hm => by
    obtain ⟨o', es', ep', ho', r'⟩ := hm
    rw [ho] at ho'; cases ho'
    exact ⟨_, es', ep', hL, r'⟩) hok hg
theorem Inv.turned {t' : Nat} {it : Addr} (I : Inv X pins σ H s) (k : ∀ b o, b ≠ it → s.heap.get? b = some o → h'.get? b = some o) (hn : H it = none) (hL : it ≠ X.env.locals)
    (h1 : it ∈ X.ex ∨ X.s_0.heap.objs.size ≤ it) (h2 : ∀ x c, X.env.cells.lookup x = some c → c ≠ it) (h3 : ∀ p ∈ X.pn ++ pins, p.1 ≠ it) : Inv X pins σ H { s with heap := h', toks := t' } := by
  have nit : ∀ b u, H b = some u → b ≠ it := fun b u e z => by rw [z, hn] at e; cases e
  refine I.step (g' := s.gens) (d' := s.drawn) (ch := [it]) (fun b hb => ?_) (fun b o _ _ hc e _ => k b o (fun z => hc (by simp [z])) e) (fun b o _ _ hc e _ => ⟨o.slots, k b o (fun z => hc (by simp [z])) e⟩) (fun _ _ _ _ n => n)
    (fun b o hc e => ⟨o, k b o (fun z => hc (by simp [z])) e⟩) (fun _ _ e => e) (fun _ _ _ e => e) (fun b ps e => ⟨#[], by rw [e]; simp⟩) (fun m hm => ?_) (fun b u e => ?_) I.bare
  · have e : b = it := by simpa using hb
    subst e
    exact ⟨h1, hL, h2, h3⟩
  · obtain ⟨o, es, ep, ho, r⟩ := hm
    exact ⟨o, es, ep, k _ o (Ne.symm hL) ho, r⟩
  · refine (I.hok b u e).stay (fun c v hc q => k c v ?_ q) (fun _ q => q) fun _ _ q => q
    rcases hc with z | z
    · rw [z]; exact nit b u e
    · exact nit c _ z
theorem Inv.tok (I : Inv X pins σ H s) (t : Nat) : Inv X pins σ H { s with toks := t } := I.un (h' := s.heap) (t' := t) Un.refl I.hok
theorem Inv.kept {t' : Nat} (I : Inv X pins σ H s) (k : ∀ b u, s.heap.get? b = some u → h'.get? b = some u) : Inv X pins σ H { s with heap := h', toks := t' } := I.un (Un.kept k) (I.hok.kept k)
theorem Inv.laid {a : Addr} {o : HO} {t' : Nat} (I : Inv X pins σ H s) (k : ∀ b u, s.heap.get? b = some u → h'.get? b = some u) (hp : s.heap.objs.size ≤ a) (new : ObjOk X.prog X.w (upd H a o) h' a o) :
    Inv X pins σ (upd H a o) { s with heap := h', toks := t' } := I.un (Un.laid k hp (I.hok.fresh hp)) (I.hok.laid k hp new)
theorem Inv.write {x e : Addr} {o : HO} {t' : Nat} (I : Inv X pins σ H s) (mu : Mut (H x)) (he : e = x ∨ H e = some (.own x)) (k : ∀ b u, b ≠ e → s.heap.get? b = some u → h'.get? b = some u) (heo : ∃ u, h'.get? e = some u)
    (new : ObjOk X.prog X.w (upd H x o) h' x o) : Inv X pins σ (upd H x o) { s with heap := h', toks := t' } := I.un (Un.write mu he k heo) (I.hok.write mu he k heo new)
theorem Inv.weak {σ' : List (Option V)} (I : Inv X pins σ H s) (hl : σ'.length = σ.length) (w : ∀ (i : Nat) v, σ'[i]? = some (some v) → σ[i]? = some (some v)) : Inv X pins σ' H s :=
  ⟨I.ok, I.os, I.bare, I.base, let ⟨m, hn, hl'⟩ := I.loc; ⟨m, hn, fun i x v e1 e2 e3 => hl' i x v e1 (w i v e2) e3⟩, I.cell, I.free, I.freeC, I.pin, I.hok, hl.trans I.len⟩
theorem Inv.pins_of {pins' : List (Addr × Obj)} (I : Inv X pins σ H s) (h : ∀ p ∈ pins', s.heap.get? p.1 = some p.2 ∧ H p.1 = none ∧ p.1 ≠ X.env.locals ∧ p.1 ∉ X.fs ∧ ∀ v, p.2.data ≠ .cell v) : Inv X pins' σ H s :=
  ⟨I.ok, I.os, I.bare, I.base, I.loc, I.cell, I.free, I.freeC, fun p hp => (List.mem_append.mp hp).elim (fun z => I.pin p (List.mem_append_left _ z)) (h p), I.hok, I.len⟩

theorem nodup_ix {N : List Str} (hN : N.Nodup) {i j : Nat} {x : Str} (a : N[i]? = some x) (b : N[j]? = some x) : i = j := by
  obtain ⟨h1, e1⟩ := List.getElem?_eq_some_iff.mp a
  obtain ⟨h2, e2⟩ := List.getElem?_eq_some_iff.mp b
  exact (List.getElem_inj hN).mp (e1.trans e2.symm)

theorem store_ok2 {M : Model} {A : Around} {E : Value → Shared → Prop} {i : Nat} {x : Str} {v : V} {u : Value} {Q : Unit → Shared → Prop} (I : Inv X pins σ H s) (hN : X.N.Nodup) (hi : X.N[i]? = some x) (hx : Loc X.env.scope x) (r : RelV v u)
    (h : ∀ s', Inv X pins (σ.set i (some v)) H s' → (∃ a, Heap.SameBut a s.heap s'.heap ∧ (a = X.env.locals ∨ X.env.cells.lookup x = some a)) → Q () s') (hf : X.fn x = true ∨ X.env.scope.names.lookup x = some .local := by first | exact .inl rfl | exact .inr rfl | assumption) : wpAny M A (storeName X.env x u) Q E s := by
  obtain ⟨m, hn, hl⟩ := id I.loc
  have hcls : (X.env.scope.kind == .class || (X.env.scope.kind == .module && X.env.locals != X.env.globals)) = false := by rw [I.ok.kind]; rfl
  have hiσ : i < σ.length := by rw [I.len]; exact (List.getElem?_eq_some_iff.mp hi).1
  have cne := I.cne
  have tracked : ∀ {a : Addr} {h' : Heap}, (∃ o, s.heap.get? a = some o ∧ H a = none) → Heap.SameBut a s.heap h' → HOk X.prog X.w H h' := fun {a h'} ha hs b ob e => by
    obtain ⟨_, _, hfree⟩ := ha
    refine (I.hok b ob e).stay (fun c w' hc q => (hs.2 c ?_).trans q) (fun _ q => q) fun _ _ q => q
    rintro rfl
    rcases hc with rfl | hc
    · rw [hfree] at e; cases e
    · rw [hfree] at hc; cases hc
  rcases hx with hk | hk
  · refine wpAny_storeName_local hk hn (fun h' hn' hs => ?_) hcls
    obtain ⟨oL, _, _, hoL, _⟩ := id hn
    refine h _ ⟨I.ok, I.os, I.bare, ⟨fun b o e n hb hx => ?_, fun b o e n hb hx => ?_, I.base.free, fun b o e hx => ?_, I.base.tups, I.base.frzs, I.base.tbls⟩, ⟨_, hn', fun j y v' e1 e2 e3 => ?_⟩, fun y c e => ?_, I.free, I.freeC, fun p hp => ?_, tracked ⟨oL, hoL, I.free⟩ hs, by simpa using I.len⟩ ⟨_, hs, .inl rfl⟩
    · exact (hs.2 b (Nat.ne_of_lt (Nat.lt_of_lt_of_le (Heap.lt_size e) I.ok.above))).trans (I.base.keep b o e n hb hx)
    · obtain ⟨sl, e1⟩ := I.base.slot b o e n hb hx
      exact ⟨sl, (hs.2 b (Nat.ne_of_lt (Nat.lt_of_lt_of_le (Heap.lt_size e) I.ok.above))).trans e1⟩
    · obtain ⟨o', e1⟩ := I.base.there b o e hx
      exact ⟨o', (hs.2 b (Nat.ne_of_lt (Nat.lt_of_lt_of_le (Heap.lt_size e) I.ok.above))).trans e1⟩
    · by_cases hj : j = i
      · subst hj
        rw [hi] at e1; cases e1
        rw [List.getElem?_set_self hiσ] at e2
        cases e2
        exact ⟨u, r, .inl ⟨hk, by simp⟩⟩
      · rw [List.getElem?_set_ne (Ne.symm hj)] at e2
        obtain ⟨u', r', q⟩ := hl j y v' e1 e2 e3
        refine ⟨u', r', ?_⟩
        rcases q with ⟨k, e⟩ | ⟨k, c, e, z⟩
        · refine .inl ⟨k, ?_⟩
          have : y ≠ x := fun e => hj (nodup_ix hN e1 (e ▸ hi))
          simp [this, e]
        · exact .inr ⟨k, c, e, z.sameBut hs (cne y c e)⟩
    · obtain ⟨w', z⟩ := I.cell y c e
      exact ⟨w', z.sameBut hs (cne y c e)⟩
    · obtain ⟨e, n, ne, nf, d⟩ := I.pin p hp
      exact ⟨(hs.2 p.1 ne).trans e, n, ne, nf, d⟩
  · have hfn : X.fn x = true := by
      rcases hf with z | z
      · exact z
      · rw [z] at hk; cases hk
    obtain ⟨c, hc⟩ := I.ok.has x (.inl hk)
    obtain ⟨w', z⟩ := I.cell x c hc
    refine wpAny_storeName_cell I.ok.kind hk hc z (fun h' hc' hs => ?_)
    obtain ⟨oc, hoc, hocd⟩ := id z
    refine h { s with heap := h' } ⟨I.ok, I.os, I.bare, ⟨fun b o e n hb hx => ?_, fun b o e n hb hx => ?_, I.base.free, fun b o e hx => ?_, I.base.tups, I.base.frzs, I.base.tbls⟩, ⟨m, hn.sameBut hs (Ne.symm (cne x c hc)), fun j y v' e1 e2 e3 => ?_⟩, fun y c' e => ?_, I.free, I.freeC, fun p hp => ?_, tracked ⟨oc, hoc, I.freeC x c hc⟩ hs, by simpa using I.len⟩ ⟨c, hs, .inr hc⟩
    · exact (hs.2 b (Nat.ne_of_lt (Nat.lt_of_lt_of_le (Heap.lt_size e) (I.ok.cab x c hfn hc)))).trans (I.base.keep b o e n hb hx)
    · obtain ⟨sl, e1⟩ := I.base.slot b o e n hb hx
      exact ⟨sl, (hs.2 b (Nat.ne_of_lt (Nat.lt_of_lt_of_le (Heap.lt_size e) (I.ok.cab x c hfn hc)))).trans e1⟩
    · obtain ⟨o', e1⟩ := I.base.there b o e hx
      exact ⟨o', (hs.2 b (Nat.ne_of_lt (Nat.lt_of_lt_of_le (Heap.lt_size e) (I.ok.cab x c hfn hc)))).trans e1⟩
    · by_cases hj : j = i
      · subst hj
        rw [hi] at e1; cases e1
        rw [List.getElem?_set_self hiσ] at e2
        cases e2
        exact ⟨u, r, .inr ⟨.inl hk, c, hc, hc'⟩⟩
      · rw [List.getElem?_set_ne (Ne.symm hj)] at e2
        obtain ⟨u', r', q⟩ := hl j y v' e1 e2 e3
        refine ⟨u', r', ?_⟩
        rcases q with q | ⟨k, c', e, z'⟩
        · exact .inl q
        · refine .inr ⟨k, c', e, z'.sameBut hs ?_⟩
          rintro rfl
          exact hj (nodup_ix hN e1 (I.ok.inj _ _ _ e hc ▸ hi))
    · by_cases hcc : c' = c
      · subst hcc; exact ⟨_, hc'⟩
      · obtain ⟨w2, z2⟩ := I.cell y c' e
        exact ⟨w2, z2.sameBut hs hcc⟩
    · obtain ⟨e, n, ne, nf, d⟩ := I.pin p hp
      refine ⟨(hs.2 p.1 ?_).trans e, n, ne, nf, d⟩
      intro q
      rw [q, hoc] at e
      have q' : oc = p.2 := Option.some.inj e
      exact d w' (by rw [← q']; exact hocd)
theorem store_ok {M : Model} {A : Around} {E : Value → Shared → Prop} {i : Nat} {x : Str} {v : V} {u : Value} {Q : Unit → Shared → Prop} (I : Inv X pins σ H s) (hN : X.N.Nodup) (hi : X.N[i]? = some x) (hx : Loc X.env.scope x) (r : RelV v u)
    (h : ∀ s', Inv X pins (σ.set i (some v)) H s' → Q () s') (hf : X.fn x = true ∨ X.env.scope.names.lookup x = some .local := by first | exact .inl rfl | exact .inr rfl | assumption) : wpAny M A (storeName X.env x u) Q E s :=
  store_ok2 I hN hi hx r (fun s' I' _ => h s' I') hf
theorem Inv.call' {s' : Shared} {ch : List Addr} (I : Inv X pins σ H s) (ho : s'.os = s.os) (u : Un (frs X.stack) ch H H' s.heap s'.heap) (hok : HOk X.prog X.w H' s'.heap) (hg : AllBare s'.gens)
    (hch : ∀ b ∈ ch, (b ∈ X.ex ∨ X.s_0.heap.objs.size ≤ b) ∧ b ≠ X.env.locals ∧ (∀ x c, X.env.cells.lookup x = some c → c ≠ b) ∧ ∀ p ∈ X.pn ++ pins, p.1 ≠ b) : Inv X pins σ H' s' := by
  obtain ⟨h', g', d', t', o'⟩ := s'
  have e : o' = s.os := ho
  subst e
  exact I.call (g' := g') (t' := t') (d' := d') u hok hg hch
end

abbrev XK := Value → Option Addr → Hp → Prop
abbrev St := List (Option V)
abbrev VK := V → Hp → Prop
abbrev TE := St → Hp → VK → Prop
abbrev TT := St → Hp → (Bool → Hp → Prop) → Prop
abbrev TA := St → Hp → (List V → Hp → Prop) → Prop
structure Ends where
  nx : St → Hp → Prop
  rt : VK
  bk : St → Hp → Prop := fun _ _ => False
  ct : St → Hp → Prop := fun _ _ => False
abbrev TS := Ends → St → Hp → Prop

def EP (X : Cx) (pins : List (Addr × Obj)) (σ : St) (Q : VK) (u : Value) (s' : Shared) : Prop := ∃ v H', Inv X pins σ H' s' ∧ RelV v u ∧ Q v H'
def TP (X : Cx) (pins : List (Addr × Obj)) (σ : St) (Q : Bool → Hp → Prop) (b : Bool) (s' : Shared) : Prop := ∃ H', Inv X pins σ H' s' ∧ Q b H'
def AP (X : Cx) (pins : List (Addr × Obj)) (σ : St) (Q : List V → Hp → Prop) (us : List Value) (s' : Shared) : Prop := ∃ vs H', Inv X pins σ H' s' ∧ Vals vs us ∧ Q vs H'
def SP (X : Cx) (pins : List (Addr × Obj)) (D : Ends) (f : Flow) (s' : Shared) : Prop :=
  match f with
  | .next => ∃ σ' H', Inv X pins σ' H' s' ∧ D.nx σ' H'
  | .brk => ∃ σ' H', Inv X pins σ' H' s' ∧ D.bk σ' H'
  | .cont => ∃ σ' H', Inv X pins σ' H' s' ∧ D.ct σ' H'
  | .ret u => ∃ v σ' H', Inv X pins σ' H' s' ∧ RelV v u ∧ D.rt v H'

def PE (X : Cx) (e : Expr) (t : TE) : Prop :=
  ∀ (pins : List (Addr × Obj)) (s : Shared) (σ : St) (H : Hp) (Q : VK), Inv X pins σ H s → t σ H Q → wpAny (model X.prog X.w) X.A (eval e X.env) (EP X pins σ Q) X.xe s
def PT (X : Cx) (e : Expr) (t : TT) : Prop :=
  ∀ (pins : List (Addr × Obj)) (s : Shared) (σ : St) (H : Hp) (Q : Bool → Hp → Prop), Inv X pins σ H s → t σ H Q → wpAny (model X.prog X.w) X.A (isTrue e X.env (eval e X.env)) (TP X pins σ Q) X.xe s
def PW (X : Cx) (e : Expr) (t : TT) : Prop :=
  ∀ (whole : Sem Value) (pins : List (Addr × Obj)) (s : Shared) (σ : St) (H : Hp) (Q : Bool → Hp → Prop), Inv X pins σ H s → t σ H Q → wpAny (model X.prog X.w) X.A (isTrue e X.env whole) (TP X pins σ Q) X.xe s
theorem PW.pt {X : Cx} {e : Expr} {t : TT} (h : PW X e t) : PT X e t := h _
def PA (X : Cx) (es : List Expr) (t : TA) : Prop :=
  ∀ (pos : Pos) (pins : List (Addr × Obj)) (s : Shared) (σ : St) (H : Hp) (Q : List V → Hp → Prop), Inv X pins σ H s → t σ H Q → wpAny (model X.prog X.w) X.A (spliced (backTo pos (starEach es X.env))) (AP X pins σ Q) X.xe s
def PS (X : Cx) (st : Stmt) (t : TS) : Prop :=
  ∀ (pins : List (Addr × Obj)) (s : Shared) (σ : St) (H : Hp) (D : Ends), Inv X pins σ H s → t D σ H → wpAny (model X.prog X.w) X.A (exec st X.env) (SP X pins D) X.xe s
def PSs (X : Cx) (st : List Stmt) (t : TS) : Prop :=
  ∀ (pins : List (Addr × Obj)) (s : Shared) (σ : St) (H : Hp) (D : Ends), Inv X pins σ H s → t D σ H → wpAny (model X.prog X.w) X.A (execs st X.env) (SP X pins D) X.xe s
theorem thn {α : Type} {t : Sem α} {Q Q' : α → Shared → Prop} {M : Model} {A : Around} {E : Value → Shared → Prop} {s : Shared} (h : wpAny M A t Q E s) (hQ : ∀ a s, Q a s → Q' a s) : wpAny M A t Q' E s := wpAny_mono h hQ fun _ _ x => x
end L2

namespace L2
open PySem PySem.Spec PyProof.Rows
section
variable {X : Cx}

theorem bin {a b : Expr} {ta tb : TE} (ha : PE X a ta) (hb : PE X b tb) {pins : List (Addr × Obj)} {s : Shared} {σ : St} {H : Hp} {R : V → V → Hp → Prop} (I : Inv X pins σ H s) (h : ta σ H fun x H1 => tb σ H1 fun y H2 => R x y H2)
    {α : Type} {Q : α → Shared → Prop} {f : Value → Value → Sem α}
    (hf : ∀ v u s2 x y H2, Inv X pins σ H2 s2 → RelV x v → RelV y u → R x y H2 → wpAny (model X.prog X.w) X.A (f v u) Q X.xe s2) :
    wpAny (model X.prog X.w) X.A (eval a X.env) (fun v s₁ => wpAny (model X.prog X.w) X.A (eval b X.env) (fun u s₂ => wpAny (model X.prog X.w) X.A (f v u) Q X.xe s₂) X.xe s₁) X.xe s := by
  refine thn (ha pins s σ H _ I h) fun v s1 ⟨x, H1, I1, r1, q1⟩ => ?_
  refine thn (hb pins s1 σ H1 _ I1 q1) fun u s2 ⟨y, H2, I2, r2, q2⟩ => ?_
  exact hf v u s2 x y H2 I2 r1 r2 q2

def tVar (i : Nat) : TE := fun σ H Q => ∃ v, σ[i]? = some (some v) ∧ Q v H
def tC (v : V) : TE := fun _ H Q => Q v H
theorem pe_var {i : Nat} {x : Str} {pos : Pos} (hN : X.N[i]? = some x) (hv : Vis X.env.scope x) (hd : (x == ("__debug__" : Str)) = false := by decide) (hcd : (x == ("__classdict__" : Str)) = false := by decide) : PE X (.Name x pos) (tVar i) := by
  intro pins s σ H Q I h
  obtain ⟨v, e, h⟩ := h
  obtain ⟨m, hn, hl⟩ := I.loc
  obtain ⟨u, r, l⟩ := hl i x v hN e hv
  have fin : EP X pins σ Q u s := ⟨v, H, I, r, h⟩
  rcases l with ⟨hk, hm⟩ | ⟨hk, c, hc, hcell⟩
  · exact wpAny_Name (wpAny_loadName_local I.ok.kind hk hn hm fin) hd
  · rcases hk with hk | hk
    · exact wpAny_Name (wpAny_loadName_cell I.ok.kind hk hc hcell fin) hd
    · exact wpAny_Name (wpAny_loadName_free I.ok.kind hk hc hcell fin hcd) hd
theorem pe_int {i j pos} : PE X (.Constant (.int i) j pos) (tC (.int i)) := fun _ _ _ H _ I h => wpAny_Constant_int ⟨.int i, H, I.tok _, ⟨_, rfl⟩, h⟩
theorem pe_str {x j pos} : PE X (.Constant (.str x) j pos) (tC (.str x)) := fun _ _ _ H _ I h => Calls.Constant_str ⟨.str x, H, I.tok _, ⟨_, rfl⟩, h⟩

def Gl (X : Cx) (x : Str) : Prop := X.env.kindOf x = some .globalImplicit
theorem ld_glob {E : Value → Shared → Prop} {pins : List (Addr × Obj)} {s : Shared} {σ : St} {H : Hp} {x : Str} {u : Value} {pos : Pos} {Q : Value → Shared → Prop} (I : Inv X pins σ H s) (hg : Gl X x) (hm : X.mg x = some u) (h : Q u s)
    (hd : (x == ("__debug__" : Str)) = false := by decide) : wpAny (model X.prog X.w) X.A (eval (.Name x pos) X.env) Q E s :=
  Calls.Name_function_global I.ok.kind hg (Calls.loadGlobal_global (by rw [I.ok.glob]; exact I.mod.glob.keeps I.bk) hm h) hd
theorem ld_blt {E : Value → Shared → Prop} {pins : List (Addr × Obj)} {s : Shared} {σ : St} {H : Hp} {x : Str} {u : Value} {pos : Pos} {Q : Value → Shared → Prop} (I : Inv X pins σ H s) (hg : Gl X x) (hm : X.mg x = none) (hv : bootBuiltins x = some u) (h : Q u s)
    (hn : x ≠ "__name__" := by decide) (hd : (x == ("__debug__" : Str)) = false := by decide) : wpAny (model X.prog X.w) X.A (eval (.Name x pos) X.env) Q E s := by
  obtain ⟨mb, h1, h2⟩ := I.mod.blt
  exact Calls.Name_function_global I.ok.kind hg (Calls.loadGlobal_builtin (by rw [I.ok.glob]; exact I.mod.glob.keeps I.bk) hm (by rw [I.ok.blt]; exact h1.keeps I.bk) ((h2 x hn).trans hv) h) hd
theorem pe_glob {x : Str} {v : V} {u : Value} {pos : Pos} (hg : Gl X x) (hm : X.mg x = some u) (r : RelV v u) (hd : (x == ("__debug__" : Str)) = false := by decide) : PE X (.Name x pos) (tC v) :=
  fun _ _ _ H _ I h => ld_glob I hg hm ⟨v, H, I, r, h⟩ hd
variable {a b : Expr} {ta tb : TE} {pos : Pos}
def PC (X : Cx) (op : CmpOp) (a b : Expr) (t : TE) : Prop :=
  ∀ (pins : List (Addr × Obj)) (s : Shared) (σ : St) (H : Hp) (Q : VK), Inv X pins σ H s → t σ H Q →
    wpAny (model X.prog X.w) X.A (eval a X.env) (fun v s₁ => wpAny (model X.prog X.w) X.A (eval b X.env) (fun u s₂ => wpAny (model X.prog X.w) X.A (compareOp op v u) (EP X pins σ Q) X.xe s₂) X.xe s₁) X.xe s
theorem nobehind (b : Expr) {op : CmpOp} (h : op ≠ .In) (h2 : op ≠ .NotIn) : behindInMarks op b = false := by
  have e1 : (op == CmpOp.In) = false := by cases op <;> first | rfl | exact absurd rfl h
  have e2 : (op == CmpOp.NotIn) = false := by cases op <;> first | rfl | exact absurd rfl h2
  cases b <;> simp [behindInMarks, e1, e2]
def tB (t : TE) : TT := fun σ H Q => t σ H fun x H1 => ∃ c, x = .bl c ∧ Q c H1
theorem pt_cmp {op : CmpOp} {t : TE} (h : PC X op a b t) (h1 : behindInMarks op b = false := by first | exact nobehind _ (by decide) (by decide) | rfl) : PT X (.Compare a [op] [b] pos) (tB t) := by
  intro pins s σ H Q I hw
  refine wpAny_isTrue_Compare1 (thn (h pins s σ H _ I hw) fun v s1 h1 => thn h1 fun u s2 h2 => thn h2 fun c s3 ⟨x, H1, I1, r1, q1⟩ => ?_) h1
  obtain ⟨d, rfl, q⟩ := q1
  cases r1
  exact wpAny_truthy_bool ⟨H1, I1, q⟩
theorem pt_val {e : Expr} {t : TE} (h : PE X e t) (he : ∀ whole, isTrue e X.env whole = (do let v ← whole; standAt e.pos; holding [v] (truthy v)) := by intro _; rfl) : PT X e (tB t) := by
  intro pins s σ H Q I hw
  refine isTrue_plain (thn (h pins s σ H _ I hw) fun v s1 ⟨x, H1, I1, r1, q1⟩ => ?_) (he _)
  obtain ⟨d, rfl, q⟩ := q1
  cases r1
  exact wpAny_truthy_bool ⟨H1, I1, q⟩

variable {tA tB' : TT} {rest : List Expr}
def tAnd (t u : TT) : TT := fun σ H Q => t σ H fun c H1 => if c = true then u σ H1 Q else Q false H1
def tNot (t : TT) : TT := fun σ H Q => t σ H fun c H1 => Q (!c) H1
theorem pw_and1 (ha : PT X a tA) : PW X (.BoolOp .And [a] pos) tA := by
  intro wh pins s σ H Q I h
  refine isTrue_and (thn (ha pins s σ H Q I h) fun c s1 e => ?_)
  cases c with
  | true => exact isTrue_and_nil e
  | false => exact e
theorem pw_and (ha : PT X a tA) (hb : PW X (.BoolOp .And (b :: rest) pos) tB') : PW X (.BoolOp .And (a :: b :: rest) pos) (tAnd tA tB') := by
  intro wh pins s σ H Q I h
  refine isTrue_and (thn (ha pins s σ H _ I h) fun c s1 ⟨H1, I1, q1⟩ => ?_)
  cases c with
  | true => exact hb wh pins s1 σ H1 Q I1 q1
  | false => exact ⟨H1, I1, q1⟩
theorem pt_not (ha : PT X a tA) : PT X (.UnaryOp .Not a pos) (tNot tA) := by
  intro pins s σ H Q I h
  exact isTrue_not (ha pins s σ H (fun c H1 => Q (!c) H1) I h)
def tAndV (ta tb : TE) : TE := fun σ H Q => ta σ H fun x H1 => ∃ c, x = .bl c ∧ if c = true then tb σ H1 Q else Q (.bl false) H1
theorem pe_one {op} {t : TE} (h : PE X a t) : PE X (.BoolOp op [a] pos) t := fun pins s σ H Q I hw => BoolOp_one (h pins s σ H Q I hw)
theorem pe_and (ha : PE X a ta) (hb : PE X (.BoolOp .And (b :: rest) pos) tb) : PE X (.BoolOp .And (a :: b :: rest) pos) (tAndV ta tb) := by
  intro pins s σ H Q I h
  refine BoolOp_and (thn (ha pins s σ H _ I h) fun v s1 ⟨x, H1, I1, r1, q1⟩ => ?_)
  obtain ⟨c, rfl, q1⟩ := q1
  cases r1
  refine wpAny_truthy_bool ?_
  cases c with
  | true => exact hb pins s1 σ H1 Q I1 q1
  | false => exact ⟨.bl false, H1, I1, rfl, q1⟩
def tIf (t : TT) (ta tb : TE) : TE := fun σ H Q => t σ H fun c H1 => if c = true then ta σ H1 Q else tb σ H1 Q
theorem pe_ifExp {c : Expr} (hc : PT X c tA) (ha : PE X a ta) (hb : PE X b tb) : PE X (.IfExp c a b pos) (tIf tA ta tb) := by
  intro pins s σ H Q I h
  refine wpAny_IfExp (thn (hc pins s σ H _ I h) fun d s1 ⟨H1, I1, q1⟩ => ?_)
  cases d with
  | true => exact ha pins s1 σ H1 Q I1 q1
  | false => exact hb pins s1 σ H1 Q I1 q1
end
end L2

namespace L2
open PySem PySem.Spec PyProof.Rows

def SqL (K : PySem.W.Frag) (H : Hp) (a : Addr) (xs : List V) : Prop :=
  Rd H a (.lst xs) ∨
    ∃ (o : Obj) (its : Array Value) (n : Nat), K.lookup a = some o ∧ o.cls = .type "list" ∧ o.dict = none ∧ o.data = .seq its n ∧ its.size ≤ sizeLine ∧ Vals xs its.toList
def SqT (K : PySem.W.Frag) (H : Hp) (a : Addr) (xs : List V) : Prop :=
  Rd H a (.tup xs) ∨
    ∃ (o : Obj) (its : Array Value) (n : Nat), K.lookup a = some o ∧ o.cls = .type "tuple" ∧ o.data = .seq its n ∧ its.size ≤ sizeLine ∧ Vals xs its.toList
def absV : Value → Option V
  | .none => some .non
  | .bool b => some (.bl b)
  | .int i _ => some (.int i)
  | .str x _ => some (.str x)
  | .bytes b _ => some (.byt b)
  | .float b _ => some (.flt b)
  | .ref a => some (.ref a)
  | .type n => some (.ty n)
  | _ => none
theorem RelV.abs {x : V} {u : Value} (r : RelV x u) : absV u = some x := by
  cases x with
  | non => cases r; rfl
  | bl _ => cases r; rfl
  | int _ => obtain ⟨t, rfl⟩ := r; rfl
  | str _ => obtain ⟨t, rfl⟩ := r; rfl
  | byt _ => obtain ⟨t, rfl⟩ := r; rfl
  | flt _ => obtain ⟨t, rfl⟩ := r; rfl
  | ref _ => cases r; rfl
  | ty _ => cases r; rfl
theorem RelV.inj {x y : V} {u : Value} (r : RelV x u) (q : RelV y u) : x = y := Option.some.inj (r.abs.symm.trans q.abs)
theorem Vals.inj : ∀ {xs ys : List V} {us : List Value}, Vals xs us → Vals ys us → xs = ys
  | _, _, _, .nil, .nil => rfl
  | _, _, _, .cons r t, .cons r' t' => by rw [r.inj r', Vals.inj t t']
section
variable {X : Cx} {pins : List (Addr × Obj)} {σ : St} {H : Hp} {s : Shared} {a : Addr} {xs ys : List V}
theorem SqL.of {K : PySem.W.Frag} (h : H a = some (.lst xs)) : SqL K H a xs := .inl (.inl h)
theorem SqT.of {K : PySem.W.Frag} (h : H a = some (.tup xs)) : SqT K H a xs := .inl (.inl h)
theorem Inv.list (I : Inv X pins σ H s) (h : SqL X.K H a xs) : ∃ its : List Value, Vals xs its ∧ PlainL s.heap a its.toArray ∧ xs.length ≤ sizeLine := by
  rcases h with h | ⟨o, its, n, hk, hc, hd, hs, hz, r⟩
  · obtain ⟨z, its, n, r, e⟩ := h.ok I.hok
    exact ⟨its, r, ⟨_, n, e, rfl, rfl, rfl⟩, z⟩
  · refine ⟨its.toList, r, ⟨o, n, I.kIn a o hk, hc, hd, by simpa using hs⟩, ?_⟩
    have e := r.length
    simp only [Array.length_toList] at e
    omega
theorem Inv.tuple (I : Inv X pins σ H s) (h : SqT X.K H a xs) : ∃ its : List Value, Vals xs its ∧ IsTup s.heap a its.toArray ∧ xs.length ≤ sizeLine := by
  rcases h with h | ⟨o, its, n, hk, hc, hs, hz, r⟩
  · obtain ⟨z, its, r, p⟩ := h.ok I.hok
    exact ⟨its, r, p, z⟩
  · refine ⟨its.toList, r, ⟨o, I.kIn a o hk, hc, n, by simpa using hs⟩, ?_⟩
    have e := r.length
    simp only [Array.length_toList] at e
    omega
end

abbrev Cx.wish (X : Cx) (E : Value → Shared → Prop) : Cx := { X with xe := E }
abbrev Cx.nox (X : Cx) : Cx := X.wish fun _ _ => False
theorem Cx.Ok.wish {X : Cx} (ok : X.Ok) (E : Value → Shared → Prop) : (X.wish E).Ok :=
  ⟨ok.mod, ok.kind, ok.glob, ok.blt, ok.above, ok.inj, ok.has, ok.cab, ok.hd, ok.frames, ok.stk, ok.exf, ok.bs, ok.bsz, ok.noex, ok.exfs, ok.funs, ok.frf⟩
theorem Cx.Ok.unwish {X : Cx} {E : Value → Shared → Prop} (ok : (X.wish E).Ok) : X.Ok :=
  ⟨ok.mod, ok.kind, ok.glob, ok.blt, ok.above, ok.inj, ok.has, ok.cab, ok.hd, ok.frames, ok.stk, ok.exf, ok.bs, ok.bsz, ok.noex, ok.exfs, ok.funs, ok.frf⟩
section
variable {X : Cx} {pins : List (Addr × Obj)} {σ : St} {H : Hp} {s : Shared} {E : Value → Shared → Prop}
theorem Inv.wish (I : Inv X pins σ H s) (E : Value → Shared → Prop) : Inv (X.wish E) pins σ H s := ⟨I.ok.wish E, I.os, I.bare, I.base, I.loc, I.cell, I.free, I.freeC, I.pin, I.hok, I.len⟩
theorem Inv.unwish (I : Inv (X.wish E) pins σ H s) : Inv X pins σ H s := ⟨I.ok.unwish, I.os, I.bare, I.base, I.loc, I.cell, I.free, I.freeC, I.pin, I.hok, I.len⟩
theorem SP.unwish {D : Ends} {f : Flow} {s' : Shared} (h : SP (X.wish E) pins D f s') : SP X pins D f s' := by
  cases f with
  | next => obtain ⟨σ', H', I, q⟩ := h; exact ⟨σ', H', I.unwish, q⟩
  | brk => obtain ⟨σ', H', I, q⟩ := h; exact ⟨σ', H', I.unwish, q⟩
  | cont => obtain ⟨σ', H', I, q⟩ := h; exact ⟨σ', H', I.unwish, q⟩
  | ret u => obtain ⟨v, σ', H', I, r, q⟩ := h; exact ⟨v, σ', H', I.unwish, r, q⟩
theorem PE.nox {e : Expr} {t : TE} (h : PE X.nox e t) : PE X e t := fun pins s σ H Q I hw =>
  wpAny_mono (h pins s σ H Q (I.wish _) hw) (fun _ _ ⟨v, H', I', r, q⟩ => ⟨v, H', I'.unwish, r, q⟩) fun _ _ z => False.elim z
theorem PT.nox {e : Expr} {t : TT} (h : PT X.nox e t) : PT X e t := fun pins s σ H Q I hw =>
  wpAny_mono (h pins s σ H Q (I.wish _) hw) (fun _ _ ⟨H', I', q⟩ => ⟨H', I'.unwish, q⟩) fun _ _ z => False.elim z
theorem PSs.nox {st : List Stmt} {t : TS} (h : PSs X.nox st t) : PSs X st t := fun pins s σ H D I hw =>
  wpAny_mono (h pins s σ H D (I.wish _) hw) (fun _ _ q => q.unwish) fun _ _ z => False.elim z
end

section
variable {X : Cx} {st : Stmt} {rest : List Stmt} {t u : TS} {e : Expr} {te : TE} {pos : Pos}
def tNext : TS := fun D σ H => D.nx σ H
def tSeq (t u : TS) : TS := fun D σ H => t { D with nx := u D } σ H
theorem pss_nil : PSs X [] tNext := fun _ _ σ H _ I h => wpAny_execs_nil ⟨σ, H, I, h⟩
theorem pss_cons (h1 : PS X st t) (h2 : PSs X rest u) : PSs X (st :: rest) (tSeq t u) := by
  intro pins s σ H D I h
  refine wpAny_execs_cons (thn (h1 pins s σ H { D with nx := u D } I h) fun f s1 q => ?_)
  cases f with
  | next =>
    obtain ⟨σ', H', I', q⟩ := q
    exact h2 pins s1 σ' H' D I' q
  | ret v => exact q
  | brk => exact q
  | cont => exact q
def tRet (te : TE) : TS := fun D σ H => te σ H D.rt
theorem ps_ret (he : PE X e te) : PS X (.Return (some e) pos) (tRet te) := by
  intro pins s σ H D I h
  exact wpAny_Return_some (thn (he pins s σ H _ I h) fun v s1 ⟨x, H1, I1, r1, q1⟩ => ⟨x, σ, H1, I1, r1, q1⟩)
def tIfS (c : TT) (t u : TS) : TS := fun D σ H => c σ H fun b H1 => if b = true then t D σ H1 else u D σ H1
theorem ps_if {c : Expr} {a b : List Stmt} {tc : TT} (hc : PT X c tc) (ha : PSs X a t) (hb : PSs X b u) : PS X (.If c a b pos) (tIfS tc t u) := by
  intro pins s σ H D I h
  refine wpAny_If (thn (hc pins s σ H _ I h) fun d s1 ⟨H1, I1, q1⟩ => ?_)
  cases d with
  | true => exact ha pins s1 σ H1 D I1 q1
  | false => exact hb pins s1 σ H1 D I1 q1
def tNever : TS := fun _ _ _ => False
theorem pss_never {sts : List Stmt} : PSs X sts tNever := fun _ _ _ _ _ _ h => h.elim
end

abbrev TG := V → St → Hp → (St → Hp → Prop) → Prop
def PG (X : Cx) (target : Expr) (t : TG) : Prop :=
  ∀ (pins : List (Addr × Obj)) (s : Shared) (σ : St) (H : Hp) (v : V) (u : Value) (Q : St → Hp → Prop), Inv X pins σ H s → RelV v u → t v σ H Q →
    wpAny (model X.prog X.w) X.A (assign target X.env u) (fun _ s' => ∃ σ' H', Inv X pins σ' H' s' ∧ Q σ' H') X.xe s
section
variable {X : Cx} {pos : Pos}
def gName (i : Nat) : TG := fun v σ H Q => Q (σ.set i (some v)) H
theorem pg_name {i : Nat} {x : Str} (hN : X.N.Nodup) (hi : X.N[i]? = some x) (hx : Loc X.env.scope x) (hf : X.fn x = true ∨ X.env.scope.names.lookup x = some .local := by first | exact .inl rfl | exact .inr rfl | assumption) : PG X (.Name x pos) (gName i) := by
  intro pins s σ H v u Q I r h
  exact wpAny_assign_Name (store_ok I hN hi hx r (fun s' I' => ⟨_, H, I', h⟩) hf)
def tAsg (te : TE) (g : TG) : TS := fun D σ H => te σ H fun x H1 => g x σ H1 D.nx
theorem ps_set {i : Nat} {x : Str} {e : Expr} {te : TE} {pos' : Pos} (hN : X.N.Nodup) (hi : X.N[i]? = some x) (hx : Loc X.env.scope x) (he : PE X e te) (hs : swapsWith e (some (.Name x pos')) pos.line X.env = pure false := by rfl) (hf : X.fn x = true ∨ X.env.scope.names.lookup x = some .local := by first | exact .inl rfl | exact .inr rfl | assumption) :
    PS X (.Assign [.Name x pos'] e pos) (tAsg te (gName i)) := by
  intro pins s σ H D I h
  refine wpAny_Assign_Name (thn (he pins s σ H _ I h) fun v s1 ⟨y, H1, I1, r1, q1⟩ => ?_) hs
  exact store_ok I1 hN hi hx r1 (fun s2 I2 => ⟨_, H1, I2, q1⟩) hf
end

section
variable {X : Cx} {pos : Pos}
def tWhile (c : TT) (tb : TS) : TS := fun D σ H => ∃ W : Nat → St → Hp → Prop, (∃ m, W m σ H) ∧ ∀ m σ H, W m σ H →
  c σ H fun b H1 => if b = true then ∃ N : St → Hp → Prop, (∀ σ' H', N σ' H' → ∃ m', m' < m ∧ W m' σ' H') ∧ tb { D with nx := N, ct := N, bk := D.nx } σ H1 else D.nx σ H1
theorem ps_while {c : Expr} {body : List Stmt} {tc : TT} {tb : TS} (hp : PassesOwn (model X.prog X.w) X.A X.env X.xe) (hc : PT X c tc) (hb : PSs X body tb) : PS X (.While c body [] pos) (tWhile tc tb) := by
  intro pins s σ H D I h
  obtain ⟨W, ⟨m0, w0⟩, turn⟩ := h
  refine wpAny_While (codeAny_whileLoop (fun n s' => ∃ σ' H', Inv X pins σ' H' s' ∧ W n σ' H') ?_ m0 ⟨σ, H, I, w0⟩)
  rintro n s1 ⟨σ1, H1, I1, w1⟩
  refine wpAny_passesOwn hp (thn (hc pins s1 σ1 H1 _ I1 (turn n σ1 H1 w1)) fun b s2 ⟨H2, I2, q2⟩ => ?_)
  cases b with
  | true =>
    obtain ⟨N, hN, q2⟩ := q2
    rw [if_pos rfl]
    refine wpAny_passesOwn hp (thn (hb pins s2 σ1 H2 _ I2 q2) fun f s3 q3 => ?_)
    cases f with
    | next =>
      obtain ⟨σ3, H3, I3, n3⟩ := q3
      obtain ⟨m', hm, w3⟩ := hN σ3 H3 n3
      exact ⟨m', hm, σ3, H3, I3, w3⟩
    | cont =>
      obtain ⟨σ3, H3, I3, n3⟩ := q3
      obtain ⟨m', hm, w3⟩ := hN σ3 H3 n3
      exact ⟨m', hm, σ3, H3, I3, w3⟩
    | brk => exact q3
    | ret v => exact q3
  | false =>
    rw [if_neg Bool.false_ne_true]
    exact wpAny_execs_nil ⟨σ1, H2, I2, q2⟩
end

structure It where
  go : Nat → Hp → Prop
  yld : Nat → Hp → V → Hp → Prop
  stop : Nat → Hp → Prop
def FpOk (X : Cx) (pins : List (Addr × Obj)) (H : Hp) (b : Addr) : Prop :=
  H b = none ∧ b ≠ X.env.locals ∧ b ∉ X.fs ∧ (b ∈ X.ex ∨ X.s_0.heap.objs.size ≤ b) ∧ (∀ x c, X.env.cells.lookup x = some c → c ≠ b) ∧ ∀ p ∈ X.pn ++ pins, p.1 ≠ b
theorem Inv.fpOk {X : Cx} {pins : List (Addr × Obj)} {σ : St} {H H' : Hp} {s : Shared} {b : Addr} (I : Inv X pins σ H s) (hb : s.heap.objs.size ≤ b) (hn : H' b = none) : FpOk X pins H' b := by
  refine ⟨hn, Nat.ne_of_gt (Nat.lt_of_lt_of_le I.lt hb), I.nofs hb, .inr (Nat.le_trans I.sz hb), fun x c e z => ?_, fun p hp z => ?_⟩
  · obtain ⟨v, q⟩ := I.cell x c e
    exact absurd (Nat.lt_of_lt_of_le q.lt (by rw [z]; exact hb)) (Nat.lt_irrefl _)
  · exact absurd (Nat.lt_of_lt_of_le (Heap.lt_size (I.pin p hp).1) (by rw [z]; exact hb)) (Nat.lt_irrefl _)
structure Turn (P : Program) (w : World) (K : PySem.W.Frag) (tg : Expr) (J : It) (fp : List Addr) (it : Addr) (tn : Nat → Heap → Prop) : Prop where
  mem : it ∈ fp
  obj : ∀ i h, tn i h → ∀ b ∈ fp, ∃ o, h.get? b = some o ∧ ∀ v, o.data ≠ .cell v
  keep : ∀ i h h', tn i h → (∀ b ∈ fp, ∀ o, h.get? b = some o → h'.get? b = some o) → tn i h'
  item : ∀ (X : Cx), X.prog = P → X.w = w → X.K = K → X.calm = true → ∀ (i : Nat) (pins : List (Addr × Obj)) (s : Shared) (σ : St) (H : Hp) (E : Value → Shared → Prop), Inv X pins σ H s → (∀ b ∈ fp, FpOk X pins H b) → tn i s.heap → J.go i H →
    wpAny (model P w) X.A (pyNext (.ref it)) (fun r s1 => ∃ u, r = some u ∧
      wpAny (model P w) X.A (letOwnedTupleGo tg (.ref it) u) (fun _ s2 => ∃ x H', Inv X pins σ H' s2 ∧ RelV x u ∧ J.yld i H x H' ∧ tn (i + 1) s2.heap ∧ ∀ b ∈ fp, H' b = none) E s1) E s
  done : ∀ (X : Cx), X.prog = P → X.w = w → X.K = K → X.calm = true → ∀ (i : Nat) (pins : List (Addr × Obj)) (s : Shared) (σ : St) (H : Hp) (E : Value → Shared → Prop), Inv X pins σ H s → (∀ b ∈ fp, FpOk X pins H b) → tn i s.heap → J.stop i H →
    wpAny (model P w) X.A (pyNext (.ref it)) (fun r s1 => r = none ∧ Inv X pins σ H s1) E s
  self : ∀ (A : Around) (i : Nat) (s : Shared) (Q : Value → Shared → Prop) (E : Value → Shared → Prop), tn i s.heap → Q (.ref it) s → wpAny (model P w) A (pyIter (.ref it)) Q E s
abbrev TI := St → Hp → (It → Hp → Prop) → Prop
def PIE (X : Cx) (pins : List (Addr × Obj)) (σ : St) (tg : Expr) (R : It → Hp → Prop) (itv : Value) (s2 : Shared) : Prop :=
  ∃ (it : Addr) (fp : List Addr) (tn : Nat → Heap → Prop) (J : It) (H' : Hp), itv = .ref it ∧ Inv X pins σ H' s2 ∧ Turn X.prog X.w X.K tg J fp it tn ∧ tn 0 s2.heap ∧ (∀ b ∈ fp, FpOk X pins H' b) ∧ R J H'
def PI (X : Cx) (tg iter : Expr) (wi : TI) : Prop :=
  ∀ (pins : List (Addr × Obj)) (s : Shared) (σ : St) (H : Hp) (R : It → Hp → Prop), Inv X pins σ H s → wi σ H R →
    wpAny (model X.prog X.w) X.A (eval iter X.env) (fun v s1 => wpAny (model X.prog X.w) X.A (pyIter v) (PIE X pins σ tg R) X.xe s1) X.xe s

theorem go_of {M : Model} {A : Around} {E : Value → Shared → Prop} {s : Shared} {tg : Expr} {it : Addr} {u : Value} {o : Obj} {n : String} {vs : Array Value} {Q : Unit → Shared → Prop} (ho : s.heap.get? it = some o) (hc : o.cls = .type n) (hd : o.data = .fields vs)
    (hn : ["enumerate", "zip", "dict_itemiterator", "dict_reverseitemiterator", "odict_iterator", "itertools.zip_longest", "itertools.pairwise"].contains n = false) (hQ : Q () s) : wpAny M A (letOwnedTupleGo tg (.ref it) u) Q E s := by
  unfold letOwnedTupleGo
  cases tg <;> first
    | exact wpAny_pure hQ
    | (cases u <;> first
        | exact wpAny_pure hQ
        | (refine wpAny_bind (wpAny_load ho ?_)
           rw [hc, hd]
           show wpAny M A (if (["enumerate", "zip", "dict_itemiterator", "dict_reverseitemiterator", "odict_iterator", "itertools.zip_longest", "itertools.pairwise"].contains n && vs[0]? == some (rawInt _)) = true then _ else _) Q E s
           rw [if_neg (by intro h; rw [hn, Bool.false_and] at h; cases h)]
           exact wpAny_pure hQ))

end L2

namespace L2
open PySem PySem.Spec PyProof.Rows
section
variable {X : Cx} {tg : Expr}
def pinsAt (fp : List Addr) (h : Heap) : List (Addr × Obj) := fp.filterMap fun b => (h.get? b).map fun o => (b, o)
theorem mem_pinsAt {fp : List Addr} {h : Heap} {b : Addr} {o : Obj} (hb : b ∈ fp) (e : h.get? b = some o) : (b, o) ∈ pinsAt fp h := List.mem_filterMap.mpr ⟨b, hb, by rw [e]; rfl⟩
theorem of_pinsAt {fp : List Addr} {h : Heap} {p : Addr × Obj} (hp : p ∈ pinsAt fp h) : p.1 ∈ fp ∧ h.get? p.1 = some p.2 := by
  obtain ⟨b, hb, e⟩ := List.mem_filterMap.mp hp
  cases q : h.get? b with
  | none => rw [q] at e; cases e
  | some o =>
    rw [q] at e
    have e' : (b, o) = p := Option.some.inj e
    subst e'
    exact ⟨hb, q⟩
theorem Inv.pinned {pins : List (Addr × Obj)} {σ : St} {H : Hp} {s : Shared} {fp : List Addr} (I : Inv X pins σ H s) (hf : ∀ b ∈ fp, FpOk X pins H b) (ho : ∀ b ∈ fp, ∃ o, s.heap.get? b = some o ∧ ∀ v, o.data ≠ .cell v) : Inv X (pins ++ pinsAt fp s.heap) σ H s :=
  I.pins_of fun p hp => (List.mem_append.mp hp).elim (fun z => I.pin p (List.mem_append_right _ z)) fun z => by
    obtain ⟨hb, e⟩ := of_pinsAt z
    obtain ⟨f0, f1, f2, _⟩ := hf p.1 hb
    obtain ⟨o, e', d⟩ := ho p.1 hb
    rw [e] at e'; cases e'
    exact ⟨e, f0, f1, f2, d⟩
theorem Inv.unpinned {pins pl : List (Addr × Obj)} {σ : St} {H : Hp} {s : Shared} (I : Inv X (pins ++ pl) σ H s) : Inv X pins σ H s := I.pins_of fun p hp => I.pin p (List.mem_append_right _ (List.mem_append_left _ hp))
end

end L2

namespace L2
open PySem PySem.Spec PyProof.Rows

abbrev R2 := V → V → Hp → VK → Prop
def OpR (X : Cx) (f : Value → Value → Sem Value) (r : R2) : Prop :=
  ∀ (pins : List (Addr × Obj)) (s : Shared) (σ : St) (H : Hp) (x y : V) (v u : Value) (Q : VK), Inv X pins σ H s → RelV x v → RelV y u → r x y H Q →
    wpAny (model X.prog X.w) X.A (f v u) (EP X pins σ Q) X.xe s
def UnR (X : Cx) (f : Value → Sem Value) (r : V → Hp → VK → Prop) : Prop :=
  ∀ (pins : List (Addr × Obj)) (s : Shared) (σ : St) (H : Hp) (x : V) (v : Value) (Q : VK), Inv X pins σ H s → RelV x v → r x H Q →
    wpAny (model X.prog X.w) X.A (f v) (EP X pins σ Q) X.xe s
def CallR (X : Cx) (f : Value) (r : List V → Hp → VK → Prop) : Prop :=
  ∀ (pins : List (Addr × Obj)) (s : Shared) (σ : St) (H : Hp) (xs : List V) (us : List Value) (Q : VK), Inv X pins σ H s → Vals xs us → r xs H Q →
    wpAny (model X.prog X.w) X.A (call f us) (EP X pins σ Q) X.xe s
def tOp (r : R2) (ta tb : TE) : TE := fun σ H Q => ta σ H fun x H1 => tb σ H1 fun y H2 => r x y H2 Q
def tUn (r : V → Hp → VK → Prop) (ta : TE) : TE := fun σ H Q => ta σ H fun x H1 => r x H1 Q
def rI (C : Int → Int → Prop) (g : Int → Int → V) : R2 := fun x y H Q => ∃ i j, x = .int i ∧ y = .int j ∧ C i j ∧ Q (g i j) H
def rI0 (g : Int → Int → V) : R2 := fun x y H Q => ∃ i j, x = .int i ∧ y = .int j ∧ Q (g i j) H
def rU (g : Int → V) : V → Hp → VK → Prop := fun x H Q => ∃ i, x = .int i ∧ Q (g i) H

section
variable {X : Cx} {a b c : Expr} {ta tb tc : TE} {pos : Pos}

theorem binT (ha : PE X a ta) (hb : PE X b tb) {pins : List (Addr × Obj)} {s : Shared} {σ : St} {H : Hp} {R : V → V → Hp → Prop} (I : Inv X pins σ H s)
    (h : ta σ H fun x H1 => tb σ H1 fun y H2 => R x y H2) {Q : Value → Shared → Prop} {f : Value → Value → Sem Value}
    (hf : ∀ v u s2 x y H2, Inv X pins σ H2 s2 → RelV x v → RelV y u → R x y H2 → wpAny (model X.prog X.w) X.A (f v u) Q X.xe s2) :
    wpAny (model X.prog X.w) X.A (eval a X.env) (fun v s₁ => wpAny (model X.prog X.w) X.A (eval b X.env) (fun u s₂ => wpAny (model X.prog X.w) X.A (f v u) Q X.xe s₂) X.xe s₁) X.xe s := by
  refine thn (ha pins s σ H _ I h) fun v s1 ⟨x, H1, I1, r1, q1⟩ => ?_
  refine thn (hb pins s1 σ H1 _ I1 q1) fun u s2 ⟨y, H2, I2, r2, q2⟩ => ?_
  exact hf v u s2 x y H2 I2 r1 r2 q2

theorem pe_op {op : Operator} {r : R2} (ho : OpR X (binaryOp op) r) (ha : PE X a ta) (hb : PE X b tb) : PE X (.BinOp a op b pos) (tOp r ta tb) := by
  intro pins s σ H Q I h
  exact wpAny_BinOp (binT ha hb I h fun v u s2 x y H2 I2 rx ry q => ho pins s2 σ H2 x y v u Q I2 rx ry q)
theorem pe_un {op : UnaryOp} {r : V → Hp → VK → Prop} (ho : UnR X (unaryOp op) r) (ha : PE X a ta) : PE X (.UnaryOp op a pos) (tUn r ta) := by
  intro pins s σ H Q I h
  exact UnaryOp_ (thn (ha pins s σ H _ I h) fun v s1 ⟨x, H1, I1, r1, q1⟩ => ho pins s1 σ H1 x v Q I1 r1 q1)
theorem opI {f : Value → Value → Sem Value} {C : Int → Int → Prop} {g : Int → Int → Int}
    (rule : ∀ (i j : Int) (t u : Tok) (s : Shared) (Q : Value → Shared → Prop) (E : Value → Shared → Prop), C i j → Q (.int (g i j) s.toks) { s with toks := s.toks + 1 } → wpAny (model X.prog X.w) X.A (f (.int i t) (.int j u)) Q E s) :
    OpR X f (rI C fun i j => .int (g i j)) := by
  intro pins s σ H x y v u Q I rx ry h
  obtain ⟨i, j, rfl, rfl, hc, q⟩ := h
  obtain ⟨t, rfl⟩ := rx
  obtain ⟨t', rfl⟩ := ry
  exact rule i j t t' s _ _ hc ⟨.int (g i j), H, I.tok _, ⟨_, rfl⟩, q⟩
theorem opI0 {f : Value → Value → Sem Value} {g : Int → Int → Int}
    (rule : ∀ (i j : Int) (t u : Tok) (s : Shared) (Q : Value → Shared → Prop) (E : Value → Shared → Prop), Q (.int (g i j) s.toks) { s with toks := s.toks + 1 } → wpAny (model X.prog X.w) X.A (f (.int i t) (.int j u)) Q E s) :
    OpR X f (rI0 fun i j => .int (g i j)) := by
  intro pins s σ H x y v u Q I rx ry h
  obtain ⟨i, j, rfl, rfl, q⟩ := h
  obtain ⟨t, rfl⟩ := rx
  obtain ⟨t', rfl⟩ := ry
  exact rule i j t t' s _ _ ⟨.int (g i j), H, I.tok _, ⟨_, rfl⟩, q⟩
theorem opB0 {f : Value → Value → Sem Value} {g : Int → Int → Bool}
    (rule : ∀ (i j : Int) (t u : Tok) (s : Shared) (Q : Value → Shared → Prop) (E : Value → Shared → Prop), Q (.bool (g i j)) s → wpAny (model X.prog X.w) X.A (f (.int i t) (.int j u)) Q E s) :
    OpR X f (rI0 fun i j => .bl (g i j)) := by
  intro pins s σ H x y v u Q I rx ry h
  obtain ⟨i, j, rfl, rfl, q⟩ := h
  obtain ⟨t, rfl⟩ := rx
  obtain ⟨t', rfl⟩ := ry
  exact rule i j t t' s _ _ ⟨.bl (g i j), H, I, rfl, q⟩

def CMul (i j : Int) : Prop := (-(2 ^ 64) < i ∧ i < 2 ^ 64) ∨ (-(2 ^ 64) < j ∧ j < 2 ^ 64)
theorem CMul.ok {i j : Int} (h : CMul i j) : IntMulOk i j := by
  rcases h with ⟨h1, h2⟩ | ⟨h1, h2⟩
  · exact .of_left (intBits_le_64 h1 h2)
  · exact .of_right (intBits_le_64 h1 h2)
theorem op_add : OpR X (binaryOp .Add) (rI0 fun i j => .int (i + j)) := opI0 fun _ _ _ _ _ _ _ q => add_int q
theorem op_sub : OpR X (binaryOp .Sub) (rI0 fun i j => .int (i - j)) := opI0 fun _ _ _ _ _ _ _ q => sub_int q
theorem op_mod : OpR X (binaryOp .Mod) (rI (fun _ j => 0 < j) fun i j => .int (i % j)) := opI fun i j _ _ _ _ _ hc q => by
  have h1 : (0 : Int) < j := hc
  exact mod_int' (by omega) (by rw [Int.fmod_eq_emod_of_nonneg i (by omega)]; exact q)
theorem unI {f : Value → Sem Value} {g : Int → Int}
    (rule : ∀ (i : Int) (t : Tok) (s : Shared) (Q : Value → Shared → Prop) (E : Value → Shared → Prop), Q (.int (g i) s.toks) { s with toks := s.toks + 1 } → wpAny (model X.prog X.w) X.A (f (.int i t)) Q E s) :
    UnR X f (rU fun i => .int (g i)) := by
  intro pins s σ H x v Q I rx h
  obtain ⟨i, rfl, q⟩ := h
  obtain ⟨t, rfl⟩ := rx
  exact rule i t s _ _ ⟨.int (g i), H, I.tok _, ⟨_, rfl⟩, q⟩
theorem un_neg : UnR X (unaryOp .USub) (rU fun i => .int (-i)) := unI fun _ _ _ _ _ q => neg_int q
end

section
variable {X : Cx} {a b c : Expr} {ta tb tc : TE} {pos : Pos}
theorem op_lt : OpR X (compareOp .Lt) (rI0 fun i j => .bl (decide (i < j))) := opB0 fun _ _ _ _ _ _ _ q => lt_int q
theorem op_le : OpR X (compareOp .LtE) (rI0 fun i j => .bl (decide (i ≤ j))) := opB0 fun _ _ _ _ _ _ _ q => le_int q
theorem op_gt : OpR X (compareOp .Gt) (rI0 fun i j => .bl (decide (j < i))) := opB0 fun _ _ _ _ _ _ _ q => gt_int q
theorem pe_cmpR {op : CmpOp} {r : R2} (ho : OpR X (compareOp op) r) (ha : PE X a ta) (hb : PE X b tb) (hm : behindInMarks op b = false) : PE X (.Compare a [op] [b] pos) (tOp r ta tb) := by
  intro pins s σ H Q I h
  exact wpAny_Compare1 (binT ha hb I h fun v u s2 x y H2 I2 rx ry q => ho pins s2 σ H2 x y v u Q I2 rx ry q) hm
def tTest (t : TE) : TT := fun σ H Q => t σ H fun x H' => ∃ k, x = .bl k ∧ Q k H'
theorem pt_cmpR {op : CmpOp} {r : R2} (ho : OpR X (compareOp op) r) (ha : PE X a ta) (hb : PE X b tb) (hm : behindInMarks op b = false) : PT X (.Compare a [op] [b] pos) (tTest (tOp r ta tb)) := by
  intro pins s σ H Q I h
  refine wpAny_isTrue_Compare1 (thn (ha pins s σ H _ I h) fun v s1 ⟨x, H1, I1, r1, q1⟩ => thn (hb pins s1 σ H1 _ I1 q1) fun u s2 ⟨y, H2, I2, r2, q2⟩ =>
    thn (ho pins s2 σ H2 x y v u _ I2 r1 r2 q2) fun c s3 ⟨z, H3, I3, r3, k, e, q3⟩ => ?_) hm
  subst e
  cases r3
  exact wpAny_truthy_bool ⟨H3, I3, q3⟩
theorem line63 : (sizeLine : Nat) < 2 ^ 63 := by rw [sizeLine_eq]; decide
theorem op_add_str : OpR X (binaryOp .Add) (fun x y H Q => ∃ i j, x = .str i ∧ y = .str j ∧ i.length + j.length ≤ sizeLine ∧ Q (.str (i ++ j)) H) := by
  intro pins s σ H x y v u Q I rx ry h
  obtain ⟨i, j, rfl, rfl, hz, q⟩ := h
  obtain ⟨t, rfl⟩ := rx
  obtain ⟨t', rfl⟩ := ry
  exact add_str (fun t' tk => ⟨.str (i ++ j), H, I.tok _, ⟨_, rfl⟩, q⟩) hz
theorem vals1 {x : V} {us : List Value} (r : Vals [x] us) : ∃ u, us = [u] ∧ RelV x u := by
  cases r with
  | cons r1 r2 => cases r2; exact ⟨_, rfl, r1⟩
theorem call_abs : CallR X (.builtin "abs") (fun xs H Q => ∃ i, xs = [.int i] ∧ Q (.int (if i < 0 then -i else i)) H) := by
  intro pins s σ H xs us Q I r h
  obtain ⟨i, rfl, q⟩ := h
  obtain ⟨u, rfl, t, rfl⟩ := vals1 r
  exact call_abs_int fun u tk => ⟨.int (if i < 0 then -i else i), H, I.tok _, ⟨_, rfl⟩, q⟩
theorem call_str_int : CallR X (.type "str") (fun xs H Q => ∃ i, xs = [.int i] ∧ i.natAbs.log2 < 1920 ∧ Q (.str (toString i)) H) := by
  intro pins s σ H xs us Q I r h
  obtain ⟨i, rfl, hz, q⟩ := h
  obtain ⟨u, rfl, t, rfl⟩ := vals1 r
  exact PySem.P.str_of_int hz ⟨.str _, H, I.tok _, ⟨_, rfl⟩, q⟩
theorem call_ord : CallR X (.builtin "ord") (fun xs H Q => ∃ x, xs = [.str x] ∧ x.length = 1 ∧ Q (.int (x.cps.getD 0 0 : Nat)) H) := by
  intro pins s σ H xs us Q I r h
  obtain ⟨x, rfl, hz, q⟩ := h
  obtain ⟨u, rfl, t, rfl⟩ := vals1 r
  exact ord_of_one hz ⟨.int _, H, I.tok _, ⟨_, rfl⟩, q⟩
end
end L2

namespace L2
open PySem PySem.Spec PyProof.Rows

section
variable {prog : Program} {w : World} {A : Around} {E : Value → Shared → Prop} {s : Shared} {K : PySem.W.Frag} {x dx C f : Addr} {mA : Str → Option Value} {name : Str} {v : Value}

end

section
variable {P : Program} {w : World} {H H' : Hp} {h h' : Heap} {a C dx : Addr} {fs fs' : List (Str × V)}
end

structure Cls (K : PySem.W.Frag) (C : Addr) : Prop where
  pg : PySem.W.plainGet K C Str.empty = true
  hd : PySem.W.hasDictIn K C = true
  po : PySem.W.plainOver K C = true
  sa : PySem.W.findIn K (.ref C) "__setattr__" = some (some (.builtin "object.__setattr__"))
theorem Cls.get {K : PySem.W.Frag} {C : Addr} (c : Cls K C) (f : Str) : PySem.W.plainGet K C f = true := c.pg
section
variable {X : Cx} {pins : List (Addr × Obj)} {σ : St} {H : Hp} {s : Shared} {a C dx : Addr} {fs : List (Str × V)} {f : Str} {v : V} {A : Around} {E : Value → Shared → Prop}

end

section
variable {X : Cx} {o e value : Expr} {f : Str} {pos pos' tpos : Pos} {ta tv : TE}
end

section
variable {X : Cx} {pins : List (Addr × Obj)} {σ : St} {H : Hp} {s : Shared} {A : Around} {E : Value → Shared → Prop} {Q : Value → Shared → Prop} {c : Value} {b : Bool}
end
end L2

namespace L2
open PySem PySem.Spec PyProof.Rows

structure Room (k : Nat) (A : Around) : Prop where
  hd : A.handled = none
  dp : A.depth + 3 * k + 5 < recursionLimit
  un : A.units + 16 * k + 200 < cLine
theorem Room.mono {j k : Nat} {A : Around} (r : Room k A) (h : j ≤ k) : Room j A := ⟨r.hd, by have := r.dp; omega, by have := r.un; omega⟩
theorem Room.deeper {k : Nat} {A : Around} (r : Room (k + 1) A) (env : Env) : Room k (A.deeper env) :=
  ⟨r.hd, by have := r.dp; show A.depth + 1 + 3 * k + 5 < _; omega, by have := r.un; show A.units + 3 + 16 * k + 200 < _; omega⟩
theorem Room.depth {k : Nat} {A : Around} (r : Room k A) : A.depth < recursionLimit := by have := r.dp; omega
theorem Room.units {k : Nat} {A : Around} (r : Room k A) : A.units + 64 < cLine := by have := r.un; omega
def tNil : TA := fun _ H Q => Q [] H
def tCons (ta : TE) (tr : TA) : TA := fun σ H Q => ta σ H fun x H1 => tr σ H1 fun xs H2 => Q (x :: xs) H2
section
variable {X : Cx} {e : Expr} {es : List Expr} {te : TE} {t : TA} {pos : Pos}
theorem pa_nil : PA X [] tNil := fun _ _ _ _ H Q I h => Calls.spliced_nil ⟨[], H, I, .nil, h⟩
theorem pa_cons (ha : PE X e te) (hr : PA X es t) (hs : starEach (e :: es) X.env = (false, eval e X.env) :: starEach es X.env := by rfl) : PA X (e :: es) (tCons te t) := by
  intro pos pins s σ H Q I h
  rw [hs]
  show wpAny _ _ (spliced ((false, eval e X.env) :: backTo pos (starEach es X.env))) _ _ s
  refine Calls.spliced_cons (thn (ha pins s σ H _ I h) fun u s1 ⟨x, H1, I1, r1, q1⟩ => ?_)
  exact thn (hr pos pins s1 σ H1 _ I1 q1) fun us s2 ⟨xs, H2, I2, r2, q2⟩ => ⟨x :: xs, H2, I2, .cons r1 r2, q2⟩

def tLst (t : TA) : TE := fun σ H Q => t σ H fun xs H1 => xs.length ≤ sizeLine ∧ ∀ p, H1 p = none → Q (.ref p) (upd H1 p (.lst xs))
theorem pe_lst (h : PA X es t) : PE X (.List es pos) (tLst t) := by
  intro pins s σ H Q I hq
  refine wpAny_List_spliced (thn (h pos pins s σ H _ I hq) fun us s1 ⟨xs, H1, I1, r, z, q⟩ => ⟨by rw [← r.length]; exact z, ?_⟩)
  have hf : H1 s1.heap.objs.size = none := I1.hok.fresh (Nat.le_refl _)
  refine ⟨.ref s1.heap.objs.size, upd H1 s1.heap.objs.size (.lst xs), I1.laid (t' := s1.toks) (fun b u e => Heap.get?_push_of_some _ e) (Nat.le_refl _) ?_, rfl, q _ hf⟩
  exact ⟨z, us, 0, r, Heap.get?_push_size _ rfl⟩
end

abbrev Sp := List V → Hp → VK → XK → Prop
abbrev CXT := List Env → Hp → Shared → XK → Value → Shared → Prop

structure Env0 (P : Program) (w : World) (K : PySem.W.Frag) (mg : Str → Option Value) (base : Heap) (A : Around) (outer : List Env) (s : Shared) (H : Hp) : Prop where
  frames : A.frames = some outer
  mod : Mod K mg base
  bs : ∀ b o, base.get? b = some o → s.heap.get? b = some o ∧ H b = none
  bsz : base.objs.size ≤ s.heap.objs.size
  funs : s.heap.FunFrames base outer
  frf : ∀ b ∈ frs outer, H b = none
  hok : HOk P w H s.heap
  bare : AllBare s.gens
def CE (outer : List Env) (P : Program) (w : World) (H : Hp) (s : Shared) (Q : VK) (u : Value) (s' : Shared) : Prop :=
  ∃ v H', s'.os = s.os ∧ AllBare s'.gens ∧ Un (frs outer) [] H H' s.heap s'.heap ∧ HOk P w H' s'.heap ∧ RelV v u ∧ Q v H'
def CR (CX : CXT) (outer : List Env) (P : Program) (w : World) (H : Hp) (s : Shared) (Q : VK) (E : XK) (r : Result) (s' : Shared) : Prop :=
  match r with
  | .ok (.ret u) => CE outer P w H s Q u s'
  | .ok _ => False
  | .error e => CX outer H s E e s'
structure FnOk (P : Program) (w : World) (K : PySem.W.Frag) (mg : Str → Option Value) (base : Heap) (CX : CXT) (k : Nat) (f : Addr) (fd : FuncData) (ps : List Str) (sp : Sp) : Prop where
  len : ∀ vs H Q E, sp vs H Q E → vs.length = ps.length
  run : ∀ (A : Around) (outer : List Env) (s : Shared) (H : Hp) (args : Args) (us : List Value) (vs : List V) (Q : VK) (E : XK), Room k A → Env0 P w K mg base A outer s H → BindsTo s fd args (ps.zip us) → Vals vs us → sp vs H Q E →
    codeAny (model P w) A (.call (.ref f) args) (CR CX outer P w H s Q E) s
theorem FnOk.mono {P : Program} {w : World} {K : PySem.W.Frag} {mg : Str → Option Value} {base : Heap} {CX : CXT} {j k : Nat} {f : Addr} {fd : FuncData} {ps : List Str} {sp : Sp} (F : FnOk P w K mg base CX j f fd ps sp) (h : j ≤ k) :
    FnOk P w K mg base CX k f fd ps sp := ⟨F.len, fun A outer s H args us vs Q E hr => F.run A outer s H args us vs Q E (hr.mono h)⟩
section
variable {X : Cx} {pins : List (Addr × Obj)} {σ : St} {H : Hp} {s s' : Shared}
theorem Inv.env0 (I : Inv X pins σ H s) : Env0 X.prog X.w X.K X.mg X.base X.A X.stack s H :=
  ⟨I.ok.frames, I.ok.mod, I.bs, Nat.le_trans I.ok.bsz I.sz, I.stack, I.stkFree, I.hok, I.bare⟩
theorem Inv.after {Q : VK} {u : Value} (I : Inv X pins σ H s) (h : CE X.stack X.prog X.w H s Q u s') : EP X pins σ Q u s' := by
  obtain ⟨v, H', os, bare, un, hok, r, q⟩ := h
  obtain ⟨hh, g, d, t, os'⟩ := s'
  obtain rfl : os' = s.os := os
  exact ⟨v, H', I.call (h' := hh) (g' := g) (d' := d) (t' := t) (ch := []) un hok bare (fun b z => absurd z (by simp)), r, q⟩
end

def tCall (sp : Sp) (dvs : List V) (E : XK) (t : TA) : TE := fun σ H Q => t σ H fun vs H1 => sp (vs ++ dvs) H1 Q E
def Binds (K : PySem.W.Frag) (fd : FuncData) (ps : List Str) (ds : List Value) : Prop :=
  ∀ (s : Shared) (us : List Value), K.In s.heap → (us ++ ds).length = ps.length → BindsTo s fd ⟨us, []⟩ (ps.zip (us ++ ds))
theorem Binds.all {K : PySem.W.Frag} {fd : FuncData} {ps : List Str} (h : ∀ us : List Value, us.length = ps.length → bindArgs fd ⟨us, []⟩ = pure (ps.zip us)) : Binds K fd ps [] := fun s us _ hl => by
  rw [List.append_nil] at hl ⊢
  exact .of_eq (h us hl)

def Passes (CX : CXT) (X : Cx) (E : XK) : Prop := ∀ (pins : List (Addr × Obj)) (σ : St) (H : Hp) (s : Shared) (e : Value) (s' : Shared), Inv X pins σ H s → CX X.stack H s E e s' → X.xe e s'

section
variable {X : Cx} {CX : CXT} {k : Nat} {f C : Addr} {fd : FuncData} {ps : List Str} {sp : Sp} {dvs : List V} {ds : List Value} {E : XK} {x m : Str} {p pos apos : Pos} {e o : Expr} {es : List Expr} {ta : TE} {t : TA}

theorem run_fn {pins : List (Addr × Obj)} {σ : St} {H : Hp} {s : Shared} {Q : VK} {us : List Value} {vs : List V} (F : FnOk X.prog X.w X.K X.mg X.base CX k f fd ps sp) (hr : Room k X.A) (hb : Binds X.K fd ps ds) (hd : Vals dvs ds) (hx : Passes CX X E)
    (I : Inv X pins σ H s) (r : Vals vs us) (h : sp (vs ++ dvs) H Q E) : wpAny (model X.prog X.w) X.A (call (.ref f) us) (EP X pins σ Q) X.xe s := by
  have r2 : Vals (vs ++ dvs) (us ++ ds) := r.append hd
  have hl : (us ++ ds).length = ps.length := by rw [← r2.length]; exact F.len _ _ _ _ h
  refine wpAny_call (codeAny_mono (F.run X.A X.stack s H ⟨us, []⟩ (us ++ ds) (vs ++ dvs) Q E hr I.env0 (hb s us I.kIn hl) r2 h) fun r s' hq => ?_)
  cases r with
  | error e => exact hx pins σ H s e s' I hq
  | ok fl =>
    cases fl with
    | ret u => exact I.after hq
    | next => exact False.elim hq
    | brk => exact False.elim hq
    | cont => exact False.elim hq

theorem pe_call (F : FnOk X.prog X.w X.K X.mg X.base CX k f fd ps sp) (hr : Room k X.A) (hg : Gl X x) (hm : X.mg x = some (.ref f)) (hk : PySem.W.keepIn X.K (.ref f) = true) (hb : Binds X.K fd ps ds) (hd : Vals dvs ds) (hx : Passes CX X E)
    (ha : PA X (e :: es) t) (hdb : (x == ("__debug__" : Str)) = false := by decide) (he : starEach (e :: es) X.env = (false, eval e X.env) :: starEach es X.env := by rfl) (hpl : (backTo pos (starEach es X.env)).any (·.1) = false := by rfl) :
    PE X (.Call (.Name x p) (e :: es) [] pos) (tCall sp dvs E t) := by
  intro pins s σ H Q I h
  refine wpAny_Call_Name_kw (ld_glob I hg hm ?_ hdb)
  refine PySem.W.callWith_K (h₀ := X.base) I.ok.mod.kin hk (thn (ha pos pins s σ H _ I h) fun us s1 ⟨vs, H1, I1, r, q⟩ => ⟨I1.kIn, ?_⟩) he hpl
  exact run_fn F hr hb hd hx I1 r q
end

section
variable {X : Cx} {CX : CXT} {k : Nat} {f C : Addr} {fd : FuncData} {ps ks : List Str} {sp : Sp} {E : XK} {x m : Str} {p pos apos kpos : Pos} {e o : Expr} {es : List Expr} {kws : List Keyword} {te ta : TE} {t tk : TA} {nm : Option Str}
variable {g : List Value → List Value → List Value} {gV : List V → List V → List V}
end

structure FnScope (N P : List Str) (sc : Scope) : Prop where
  kind : sc.kind = .function
  co : sc.isCoroutine = false
  gen : sc.isGenerator = false
  nd : N.Nodup
  pre : N.take P.length = P
  par : ∀ x ∈ P, sc.names.lookup x = some .local ∨ sc.names.lookup x = some .cell
  nofree : ∀ y ∈ sc.names, y.2 ≠ .free

theorem bindL_out {kindOf : Str → Option NameKind} {x : Str} : ∀ {binds : List (Str × Value)} {m : Str → Option Value}, (∀ v, (x, v) ∉ binds) → bindL kindOf binds m x = m x
  | [], _, _ => rfl
  | (n, v) :: r, m, h => by
    unfold bindL
    rw [bindL_out fun w hw => h w (List.mem_cons_of_mem _ hw)]
    split
    · have : x ≠ n := by rintro rfl; exact h v List.mem_cons_self
      simp [this]
    · rfl
theorem bindC_out {kindOf : Str → Option NameKind} {x : Str} : ∀ {binds : List (Str × Value)} {m : Str → Option Value}, (∀ v, (x, v) ∉ binds) → bindC kindOf binds m x = m x
  | [], _, _ => rfl
  | (n, v) :: r, m, h => by
    unfold bindC
    rw [bindC_out fun w hw => h w (List.mem_cons_of_mem _ hw)]
    split
    · rfl
    · have : x ≠ n := by rintro rfl; exact h v List.mem_cons_self
      simp [this]
theorem bindL_get {kindOf : Str → Option NameKind} {x : Str} {v : Value} : ∀ {P : List Str} {vs : List Value} {i : Nat} {m : Str → Option Value}, P.Nodup → P[i]? = some x → vs[i]? = some v → kindOf x = some .local →
    bindL kindOf (P.zip vs) m x = some v
  | [], _, _, _, _, h, _, _ => by simp at h
  | _ :: _, [], _, _, _, _, h, _ => by simp at h
  | p :: P, w :: vs, 0, m, nd, h1, h2, hk => by
    simp at h1 h2; subst h1; subst h2
    show bindL kindOf ((p, w) :: P.zip vs) m p = _
    unfold bindL
    rw [bindL_out fun v hv => (List.nodup_cons.mp nd).1 (List.of_mem_zip hv).1, if_pos hk]
    simp
  | p :: P, w :: vs, i + 1, m, nd, h1, h2, hk => by
    show bindL kindOf ((p, w) :: P.zip vs) m x = _
    unfold bindL
    exact bindL_get (i := i) (List.nodup_cons.mp nd).2 (by simpa using h1) (by simpa using h2) hk
theorem bindC_get {kindOf : Str → Option NameKind} {x : Str} {v : Value} : ∀ {P : List Str} {vs : List Value} {i : Nat} {m : Str → Option Value}, P.Nodup → P[i]? = some x → vs[i]? = some v → kindOf x ≠ some .local →
    bindC kindOf (P.zip vs) m x = some v
  | [], _, _, _, _, h, _, _ => by simp at h
  | _ :: _, [], _, _, _, _, h, _ => by simp at h
  | p :: P, w :: vs, 0, m, nd, h1, h2, hk => by
    simp at h1 h2; subst h1; subst h2
    show bindC kindOf ((p, w) :: P.zip vs) m p = _
    unfold bindC
    rw [bindC_out fun v hv => (List.nodup_cons.mp nd).1 (List.of_mem_zip hv).1, if_neg hk]
    simp
  | p :: P, w :: vs, i + 1, m, nd, h1, h2, hk => by
    show bindC kindOf ((p, w) :: P.zip vs) m x = _
    unfold bindC
    exact bindC_get (i := i) (List.nodup_cons.mp nd).2 (by simpa using h1) (by simpa using h2) hk

def start (N : List Str) (vs : List V) : St := vs.map some ++ List.replicate (N.length - vs.length) none

def cxOf (CX : CXT) (P : Program) (w : World) (K : PySem.W.Frag) (mg : Str → Option Value) (base : Heap) (N : List Str) (qual : Str) (scope : Scope) (f : Addr) (cd : Value) (A : Around) (outer : List Env) (s : Shared) (H : Hp) (E : XK) : Cx where
  prog := P
  w := w
  K := K
  mg := mg
  base := base
  A := A.deeper (envOfC qual scope s.heap.objs.size f cd)
  N := N
  s_0 := s
  H_0 := H
  env := envOfC qual scope s.heap.objs.size f cd
  outer := outer
  stack := envOfC qual scope s.heap.objs.size f cd :: outer
  ex := []
  calm := true
  fn := fun _ => true
  pn := []
  xe := fun e s' => wpAny (model P w) (A.deeper (envOfC qual scope s.heap.objs.size f cd)) (leaving (envOfC qual scope s.heap.objs.size f cd) e) (fun _ s'' => CX outer H s E e s'') (fun e' s'' => CX outer H s E e' s'') s'

theorem cell_has {sc : Scope} {n : Nat} {x : Str} (h : sc.names.lookup x = some .cell) : ∃ c, (cellsFrom n sc.names []).lookup x = some c := by
  have q := PySem.W.cellsFrom_some sc.names n [] (.inl h)
  exact Option.isSome_iff_exists.mp q

theorem inv_start {CX : CXT} {P : Program} {w : World} {K : PySem.W.Frag} {mg : Str → Option Value} {base : Heap} {N ps : List Str} {qual : Str} {scope : Scope} {f : Addr} {cd : Value} {A : Around} {outer : List Env} {s s1 : Shared} {H : Hp} {E : XK} {us : List Value} {vs : List V}
    (S : FnScope N ps scope) (hd : A.handled = none) (e0 : Env0 P w K mg base A outer s H) (hl : vs.length = ps.length) (r : Vals vs us)
    (x : InCallC s s.heap.objs.size (bindL (envOfC qual scope s.heap.objs.size f cd).kindOf (ps.zip us) fun _ => none) (cellsFrom (s.heap.objs.size + 1) scope.names []) (bindC (envOfC qual scope s.heap.objs.size f cd).kindOf (ps.zip us) fun _ => none) s1) :
    Inv (cxOf CX P w K mg base N qual scope f cd A outer s H E) [] (start N vs) H s1 := by
  have hpl : ps.length ≤ N.length := by have := congrArg List.length S.pre; rw [List.length_take] at this; omega
  obtain ⟨h1, tk, rfl, hk⟩ := x.done
  have noA : ∀ b : Addr, b ∉ (cxOf CX P w K mg base N qual scope f cd A outer s H E).ex := fun b z => absurd (show b ∈ ([] : List Addr) from z) (by simp)
  refine ⟨⟨e0.mod, S.kind, rfl, rfl, Nat.le_refl _, fun y z c h1 h2 => ?_, fun y hy => ?_, fun y c _ h => ?_, fun _ => hd, Around.frames_deeper e0.frames, .inr ⟨rfl, rfl⟩, fun b z => absurd z (noA b), e0.bs, e0.bsz, fun b _ _ => noA b, fun b z => absurd z (noA b), e0.funs, e0.frf⟩,
    rfl, e0.bare, Un.kept hk, ⟨_, x.toInCall.ns, fun i y v h1 h2 h3 => ?_⟩, fun y c h => ⟨_, x.cell y c h⟩, e0.hok.fresh (Nat.le_refl _), fun y c h => ?_, fun p hp => absurd (show p ∈ ([] : List (Addr × Obj)) from hp) (by simp), e0.hok.kept hk, ?_⟩
  · exact name_of_addr x.apart (PySem.mem_of_lookup h1) (PySem.mem_of_lookup h2)
  · have hy : scope.names.lookup y = some .cell ∨ scope.names.lookup y = some .free := hy
    rcases hy with hy | hy
    · exact cell_has hy
    · exact absurd rfl (S.nofree _ (PySem.mem_of_lookup hy))
  · exact Nat.le_of_lt (x.above y c (PySem.mem_of_lookup h))
  · have hi : i < vs.length := by
      unfold start at h2
      by_cases hi : i < vs.length
      · exact hi
      · rw [List.getElem?_append_right (by simpa using hi)] at h2
        rw [List.getElem?_replicate] at h2
        split at h2 <;> cases h2
    have ha : vs[i]? = some v := by
      unfold start at h2
      rw [List.getElem?_append_left (by simpa using hi), List.getElem?_map] at h2
      cases e : vs[i]? with
      | none => rw [e] at h2; cases h2
      | some a => rw [e] at h2; cases h2; rfl
    obtain ⟨u, hu, rv⟩ := r.get ha
    have hp : ps[i]? = some y := by
      rw [← S.pre, List.getElem?_take_of_lt (by omega)]; exact h1
    have ndP : ps.Nodup := by rw [← S.pre]; exact S.nd.sublist (List.take_sublist _ _)
    refine ⟨u, rv, ?_⟩
    rcases S.par y (List.mem_of_getElem? hp) with k | k
    · exact .inl ⟨k, bindL_get ndP hp hu k⟩
    · obtain ⟨c, e⟩ := cell_has (n := s.heap.objs.size + 1) k
      refine .inr ⟨.inl k, c, e, ?_⟩
      have q := x.cell y c e
      rw [bindC_get ndP hp hu (by show scope.names.lookup y ≠ _; rw [k]; decide)] at q
      exact q
  · exact e0.hok.fresh (Nat.le_of_lt (x.above y c (PySem.mem_of_lookup h)))
  · unfold start
    show _ = N.length
    rw [List.length_append, List.length_map, List.length_replicate]
    omega

theorem fn_of {CX : CXT} {P : Program} {w : World} {K : PySem.W.Frag} {mg : Str → Option Value} {base : Heap} {k : Nat} {f : Addr} {name qual : Str} {params : Arguments} {body : List Stmt} {scope : Scope} {dV kV doc pm cdv ct oc : Value} {an od : Option Addr}
    {osl : Array (Option Value)} {N ps : List Str} {sp : Sp} (lk : K.lookup f = some ⟨oc, od, .func (PySem.W.fnOf name qual params body scope dV kV doc pm an cdv ct), osl⟩) (hcd : PySem.W.codeIn K cdv qual = true) (S : FnScope N ps scope)
    (len : ∀ vs H Q E, sp vs H Q E → vs.length = ps.length)
    (hbody : ∀ (A : Around) (outer : List Env) (s : Shared) (H : Hp) (vs : List V) (Q : VK) (E : XK), Room k (A.deeper (envOfC qual scope s.heap.objs.size f cdv)) → sp vs H Q E →
      ∃ t, PSs (cxOf CX P w K mg base N qual scope f cdv A outer s H E) body t ∧ t { nx := fun _ H' => Q .non H', rt := Q } (start N vs) H) :
    FnOk P w K mg base CX (k + 1) f (PySem.W.fnOf name qual params body scope dV kV doc pm an cdv ct) ps sp := by
  refine ⟨len, fun A outer s H args us vs Q E hr e0 hb r hsp => ?_⟩
  have hl := len _ _ _ _ hsp
  have KX : K.In s.heap := e0.mod.kin.keeps fun b o e => (e0.bs b o e).1
  have lim : s.heap.NoLimit := e0.mod.nolimit.keeps fun b o e => (e0.bs b o e).1
  have hkind : ∀ y ∈ ps.zip us, scope.names.lookup y.1 = some .local ∨ (scope.names.lookup y.1 = some .cell ∧ ((cellsFrom (s.heap.objs.size + 1) scope.names []).lookup y.1).isSome = true) := fun ⟨n, v⟩ hy => by
    rcases S.par n (List.of_mem_zip hy).1 with q | q
    · exact .inl q
    · exact .inr ⟨q, PySem.W.cellsFrom_some _ _ _ (.inl q)⟩
  refine codeAny_call_function hr.depth (KX _ _ lk) rfl S.co S.gen rfl (PySem.W.codeRec_of KX hcd) (hb _ _ _ _ ?_)
  refine wpAny_newFunctionEnv_cells S.kind hkind fun env he s1 x => ?_
  subst he
  refine ⟨lim.keeps x.toInCall.keep, codeAny_func ?_⟩
  obtain ⟨t, ht, hq⟩ := hbody A outer s H vs Q E (hr.deeper _) hsp
  have I : Inv (cxOf CX P w K mg base N qual scope f cdv A outer s H E) [] (start N vs) H s1 := inv_start S hr.hd e0 hl r x
  refine wpAny_mono (ht [] s1 (start N vs) H _ I hq) (fun fl s' hs => ?_) fun e s' hs => hs
  have fin : ∀ {σ' : St} {H' : Hp} {v : V} {u : Value}, Inv (cxOf CX P w K mg base N qual scope f cdv A outer s H E) [] σ' H' s' → RelV v u → Q v H' → CE outer P w H s Q u s' :=
    fun {σ' H' v u} J rv q => ⟨v, H', J.os, J.bare, J.base, J.hok, rv, q⟩
  cases fl with
  | ret u =>
    obtain ⟨v, σ', H', J, rv, q⟩ := hs
    exact fin J rv q
  | next =>
    obtain ⟨σ', H', J, q⟩ := hs
    exact fin (v := V.non) (u := Value.none) J rfl q
  | brk =>
    obtain ⟨_, _, _, q⟩ := hs
    exact False.elim q
  | cont =>
    obtain ⟨_, _, _, q⟩ := hs
    exact False.elim q
end L2

namespace L2
open PySem PySem.Spec PyProof.Rows
section
variable {X : Cx} {x : Str} {p pos : Pos} {e : Expr} {es : List Expr} {t : TA} {id T : String} {r : List V → Hp → VK → Prop}

def tCB (r : List V → Hp → VK → Prop) (t : TA) : TE := fun σ H Q => t σ H fun vs H1 => r vs H1 Q
theorem pe_callB (hc : CallR X (.builtin id) r) (hg : Gl X x) (hm : X.mg x = none) (hv : bootBuiltins x = some (.builtin id)) (ha : PA X (e :: es) t) (hn : x ≠ "__name__" := by decide) (hdb : (x == ("__debug__" : Str)) = false := by decide)
    (he : starEach (e :: es) X.env = (false, eval e X.env) :: starEach es X.env := by rfl) (hpl : (backTo pos (starEach es X.env)).any (·.1) = false := by rfl) : PE X (.Call (.Name x p) (e :: es) [] pos) (tCB r t) := by
  intro pins s σ H Q I h
  refine wpAny_Call_Name_kw (ld_blt I hg hm hv ?_ hn hdb)
  exact PyProof.Rows.callWith_builtin1 (thn (ha pos pins s σ H _ I h) fun us s1 ⟨vs, H1, I1, r1, q1⟩ => hc pins s1 σ H1 vs us Q I1 r1 q1) he hpl
theorem pe_callTy (hc : CallR X (.type T) r) (hg : Gl X x) (hm : X.mg x = none) (hv : bootBuiltins x = some (.type T)) (ha : PA X (e :: es) t) (hn : x ≠ "__name__" := by decide) (hdb : (x == ("__debug__" : Str)) = false := by decide)
    (he : starEach (e :: es) X.env = (false, eval e X.env) :: starEach es X.env := by rfl) (hpl : (backTo pos (starEach es X.env)).any (·.1) = false := by rfl) : PE X (.Call (.Name x p) (e :: es) [] pos) (tCB r t) := by
  intro pins s σ H Q I h
  refine wpAny_Call_Name_kw (ld_blt I hg hm hv ?_ hn hdb)
  exact PyProof.Rows.callWith_type1 (thn (ha pos pins s σ H _ I h) fun us s1 ⟨vs, H1, I1, r1, q1⟩ => hc pins s1 σ H1 vs us Q I1 r1 q1) he hpl
end
end L2

namespace HT
open PySem PyProof.Rows

section
open PySem.SeqAt
open PySem.AutoSeq1 (wpAny_loadPart')
open PySem.MeetsSeq PySem.MeetsSeq2 PySem.MeetsSeq3

end

section
variable {prog : Program} {w : World} {A : Around} {E : Value → Shared → Prop} {s : Shared}

def sIx (n d : Nat) : Option Int → Nat
  | none => d
  | some v => if v < 0 then (v + (n : Int)).toNat else min v.toNat n
theorem sIx_le (n d : Nat) (hd : d ≤ n) (o : Option Int) : sIx n d o ≤ n := by
  cases o with
  | none => exact hd
  | some v =>
    show (if v < 0 then (v + (n : Int)).toNat else min v.toNat n) ≤ n
    by_cases hv : v < 0
    · rw [if_pos hv]; omega
    · rw [if_neg hv]; exact Nat.min_le_right _ _
end
end HT

namespace L2
open PySem PySem.Spec PyProof.Rows

abbrev TO := St → Hp → (Option Int → Hp → Prop) → Prop
def PO (X : Cx) (e : Option Expr) (t : TO) : Prop :=
  ∀ (pins : List (Addr × Obj)) (s : Shared) (σ : St) (H : Hp) (Q : Option Int → Hp → Prop), Inv X pins σ H s → t σ H Q →
    wpAny (model X.prog X.w) X.A (evalPart e X.env) (fun u s' => ∃ o H', Inv X pins σ H' s' ∧ IsPart u o ∧ Q o H') X.xe s
def tNoPart : TO := fun _ H Q => Q none H
def tPart (t : TE) : TO := fun σ H Q => t σ H fun x H1 => ∃ i, x = .int i ∧ Q (some i) H1

section
variable {X : Cx} {e : Expr} {te : TE} {lo hi : Option Expr} {tl th : TO} {pos p2 : Pos}

theorem po_none : PO X none tNoPart := by
  intro pins s σ H Q I h
  rw [evalPart_none]
  exact wpAny_pure ⟨none, H, I, .none, h⟩
theorem po_some (h : PE X e te) : PO X (some e) (tPart te) := by
  intro pins s σ H Q I hw
  rw [evalPart_some]
  refine thn (h pins s σ H _ I hw) fun u s1 ⟨x, H1, I1, r1, q1⟩ => ?_
  obtain ⟨i, rfl, q⟩ := q1
  obtain ⟨t, rfl⟩ := r1
  exact ⟨some i, H1, I1, .int i t, q⟩

def SlR (X : Cx) (r : V → Option Int → Option Int → Hp → VK → Prop) : Prop :=
  ∀ (pins : List (Addr × Obj)) (s : Shared) (σ : St) (H : Hp) (x : V) (v vl vu : Value) (lo hi : Option Int) (sl : Addr) (Q : VK), Inv X pins σ H s → RelV x v → s.heap.IsSliceOf sl vl vu .none → IsPart vl lo → IsPart vu hi → r x lo hi H Q →
    ∃ T id, typeLookup (.type T) "__getitem__" = pure (some (.builtin id)) ∧ s.TypeIs v T ∧ wpAny (model X.prog X.w) X.A (getItem v (.ref sl)) (EP X pins σ Q) X.xe s
def tSl (r : V → Option Int → Option Int → Hp → VK → Prop) (te : TE) (tl th : TO) : TE := fun σ H Q => te σ H fun x H1 => tl σ H1 fun l H2 => th σ H2 fun u H3 => r x l u H3 Q
theorem pe_slice {r : V → Option Int → Option Int → Hp → VK → Prop} (hr : SlR X r) (he : PE X e te) (hl : PO X lo tl) (hu : PO X hi th) : PE X (.Subscript e (.Slice lo hi none p2) pos) (tSl r te tl th) := by
  intro pins s σ H Q I h
  refine Subscript_ (thn (he pins s σ H _ I h) fun v s1 ⟨x, H1, I1, r1, q1⟩ => ?_)
  refine wpAny_Slice (thn (hl pins s1 σ H1 _ I1 q1) fun vl s2 ⟨l, H2, I2, pl, q2⟩ => thn (hu pins s2 σ H2 _ I2 q2) fun vu s3 ⟨u, H3, I3, pu, q3⟩ => ?_)
  rw [evalPart_none]
  refine wpAny_pure ?_
  have I4 : Inv X pins σ H3 { s3 with heap := s3.heap.push { cls := .type "slice", data := .fields #[vl, vu, .none] } } := I3.kept (t' := s3.toks) fun b ob q => Heap.get?_push_of_some _ q
  obtain ⟨T, id, hT, ht, hg⟩ := hr pins { s3 with heap := s3.heap.push { cls := .type "slice", data := .fields #[vl, vu, .none] } } σ H3 x v vl vu l u s3.heap.objs.size Q I4 r1 (Heap.IsSliceOf.new ..) pl pu q3
  show wpAny (model X.prog X.w) X.A (subscriptTail e (.Slice lo hi none p2) v (.ref s3.heap.objs.size)) (EP X pins σ Q) X.xe { s3 with heap := s3.heap.push { cls := .type "slice", data := .fields #[vl, vu, .none] } }
  exact tail_any (ops := [.ref s3.heap.objs.size, v]) ht hT hg (by with_unfolding_all rfl)

end
end L2

namespace L2
open PySem PySem.Spec PyProof.Rows

def ixN (n : Nat) (i : Int) : Option Nat := if 0 ≤ i then (if i < n then some i.toNat else none) else if -(n : Int) ≤ i then some (i + n).toNat else none
def atI {α : Type} (xs : List α) (i : Int) : Option α := (ixN xs.length i).bind fun j => xs[j]?
theorem ixN_seq {n : Nat} {i : Int} {j : Nat} (h : ixN n i = some j) : seqIndex? i n = some j ∧ j < n ∧ -(n : Int) ≤ i ∧ i < n := by
  unfold ixN at h
  by_cases h0 : 0 ≤ i
  · rw [if_pos h0] at h
    by_cases h1 : i < n
    · rw [if_pos h1] at h
      have e : i.toNat = j := Option.some.inj h
      exact ⟨by rw [seqIndex_of h0 h1, e], by omega, by omega, h1⟩
    · rw [if_neg h1] at h; cases h
  · rw [if_neg h0] at h
    by_cases h1 : -(n : Int) ≤ i
    · rw [if_pos h1] at h
      have e : (i + n).toNat = j := Option.some.inj h
      exact ⟨by rw [seqIndex_neg (by omega) h1, e], by omega, h1, by omega⟩
    · rw [if_neg h1] at h; cases h
theorem atI_get {α : Type} {xs : List α} {i : Int} {v : α} (h : atI xs i = some v) : ∃ j, seqIndex? i xs.length = some j ∧ xs[j]? = some v ∧ j < xs.length ∧ -(xs.length : Int) ≤ i ∧ i < xs.length := by
  unfold atI at h
  cases e : ixN xs.length i with
  | none => rw [e] at h; cases h
  | some j =>
    rw [e] at h
    obtain ⟨h1, h2, h3, h4⟩ := ixN_seq e
    exact ⟨j, h1, h, h2, h3, h4⟩
theorem atI_nat {α : Type} {xs : List α} {j : Nat} {v : α} (h : xs[j]? = some v) : atI xs (j : Int) = some v := by
  have hj : j < xs.length := (List.getElem?_eq_some_iff.mp h).1
  have e : ixN xs.length (j : Int) = some j := by
    unfold ixN
    rw [if_pos (by omega), if_pos (by omega)]; simp
  unfold atI; rw [e]; exact h
def PlainIx (b : Expr) : Prop := ∀ o i, subscripted b false o i = operate [o, i] (getItem o i)
def IxR (X : Cx) (r : R2) : Prop :=
  ∀ (value slice : Expr) (pins : List (Addr × Obj)) (s : Shared) (σ : St) (H : Hp) (x y : V) (v u : Value) (Q : VK), Inv X pins σ H s → RelV x v → RelV y u → r x y H Q →
    subscripted slice false v u = operate [v, u] (getItem v u) → wpAny (model X.prog X.w) X.A (subscriptTail value slice v u) (EP X pins σ Q) X.xe s
def MtR (X : Cx) (id : String) (r : V → List V → Hp → VK → Prop) : Prop :=
  ∀ (pins : List (Addr × Obj)) (s : Shared) (σ : St) (H : Hp) (x : V) (xs : List V) (v : Value) (us : List Value) (Q : VK), Inv X pins σ H s → RelV x v → Vals xs us → r x xs H Q →
    wpAny (model X.prog X.w) X.A (call (.builtin id) (v :: us)) (EP X pins σ Q) X.xe s
section
variable {X : Cx} {a b : Expr} {ta tb : TE} {pos : Pos}
theorem pe_ix {r : R2} (hr : IxR X r) (ha : PE X a ta) (hb : PE X b tb) (hs : PlainIx b) : PE X (.Subscript a b pos) (tOp r ta tb) := by
  intro pins s σ H Q I h
  exact Subscript_ (binT ha hb I h fun v u s2 x y H2 I2 rx ry q => hr a b pins s2 σ H2 x y v u Q I2 rx ry q (hs _ _))

def rIxT (K : PySem.W.Frag) : R2 := fun x y H Q => ∃ p xs i v, x = .ref p ∧ y = .int i ∧ SqT K H p xs ∧ atI xs i = some v ∧ Q v H
theorem ix_tup : IxR X (rIxT X.K) := by
  intro value slice pins s σ H x y v u Q I rx ry h hs
  obtain ⟨p, xs, i, z, rfl, rfl, hq, he, q⟩ := h
  cases rx
  obtain ⟨t, rfl⟩ := ry
  obtain ⟨its, r, pl, hz⟩ := I.tuple hq
  obtain ⟨j, h1, h2, h3, h4, h5⟩ := atI_get he
  obtain ⟨w, ew, rw'⟩ := r.get h2
  have hl := r.length
  have hn := line63
  have fin : EP X pins σ Q w s := ⟨z, H, I, rw', q⟩
  exact subscriptTail_builtinR (x := w) pl.typeIs slot_tuple_getitem.lookup
    (getItem_tuple (j := j) (Q := fun r s' => r = w ∧ EP X pins σ Q r s') pl (by omega) (by omega) (by rw [List.size_toArray, ← hl]; exact h1) (by simpa using ew) ⟨rfl, fin⟩) hs
theorem slice_bounds (lo hi : Option Int) (n : Nat) : (sliceBounds lo hi none n).1 = ((HT.sIx n 0 lo : Nat) : Int) ∧ (sliceBounds lo hi none n).2.1 = ((HT.sIx n n hi : Nat) : Int) ∧ (sliceBounds lo hi none n).2.2 = 1 := by
  refine ⟨?_, ?_, rfl⟩
  · cases lo with
    | none => simp [sliceBounds, HT.sIx]
    | some i =>
      simp only [sliceBounds, HT.sIx, Option.getD_none, show (1 : Int) > 0 by decide, if_true]
      by_cases h : i < 0
      · simp only [h, if_true] <;> omega
      · simp only [h, if_false] <;> omega
  · cases hi with
    | none => simp [sliceBounds, HT.sIx]
    | some i =>
      simp only [sliceBounds, HT.sIx, Option.getD_none, show (1 : Int) > 0 by decide, if_true]
      by_cases h : i < 0
      · simp only [h, if_true] <;> omega
      · simp only [h, if_false] <;> omega
def tyV (K : PySem.W.Frag) (T : String) (x : V) (H : Hp) : Prop := match x with
  | .str _ => T = "str"
  | .int _ => T = "int"
  | .ref p => (T = "list" ∧ ∃ xs, SqL K H p xs) ∨ (T = "tuple" ∧ ∃ o, K.lookup p = some o ∧ o.cls = .type "tuple" ∧ o.dict = none) ∨
      (T = "dict" ∧ ((∃ kvs, H p = some (.dK kvs)) ∨ ∃ kvs, H p = some (.dT kvs))) ∨ (T = "set" ∧ ∃ S n, H p = some (.set S n))
  | _ => False
theorem tyV_is {pins : List (Addr × Obj)} {σ : St} {H : Hp} {s : Shared} {T : String} {x : V} {v : Value} (I : Inv X pins σ H s) (r : RelV x v) (ty : tyV X.K T x H) :
    s.TypeIs v T ∧ ∀ a, v = .ref a → ∃ ob, s.heap.get? a = some ob ∧ ob.dict = none := by
  cases x with
  | str z =>
    obtain ⟨t, rfl⟩ := r
    cases (show T = "str" from ty)
    exact ⟨typeIs_str s z t, fun _ e => nomatch e⟩
  | int i =>
    obtain ⟨t, rfl⟩ := r
    cases (show T = "int" from ty)
    exact ⟨typeIs_int s i t, fun _ e => nomatch e⟩
  | ref p =>
    cases r
    rcases ty with ⟨rfl, xs, hq⟩ | ⟨rfl, o, hk, hc, hd⟩ | ⟨rfl, hk⟩ | ⟨rfl, S, n, hk⟩
    · obtain ⟨its, _, pl, _⟩ := I.list hq
      refine ⟨pl.isList.typeIs, fun a e => ?_⟩
      cases e
      obtain ⟨o, n, e, c, hd, _⟩ := pl
      exact ⟨o, e, hd⟩
    · refine ⟨⟨o, I.kIn p o hk, hc⟩, fun a e => ?_⟩
      cases e
      exact ⟨o, I.kIn _ o hk, hd⟩
    · have z : ∃ o, s.heap.get? p = some o ∧ o.ExactDict := by
        rcases hk with ⟨kvs, hk⟩ | ⟨kvs, hk⟩
        · obtain ⟨_, _, _, _, o, _, _, e, ex, _⟩ := I.hok p _ hk
          exact ⟨o, e, ex⟩
        · obtain ⟨_, _, _, _, o, _, _, e, ex, _⟩ := I.hok p _ hk
          exact ⟨o, e, ex⟩
      obtain ⟨o, e, ex⟩ := z
      refine ⟨⟨o, e, ex.1⟩, fun a e2 => ?_⟩
      cases e2
      exact ⟨o, e, ex.2.1⟩
    · obtain ⟨o, _, _, _, e, ex, _⟩ := I.hok p _ hk
      refine ⟨⟨o, e, ex.1⟩, fun a e2 => ?_⟩
      cases e2
      exact ⟨o, e, ex.2.1⟩
  | _ => exact False.elim ty
variable {o e : Expr} {es : List Expr} {to : TE} {t : TA} {name : Str} {apos cpos : Pos} {T id : String} {r : V → List V → Hp → VK → Prop}
end
end L2

namespace L2
open PySem PySem.Spec PyProof.Rows

def MtM (X : Cx) (id : String) (r : V → List V → Hp → VK → Prop) : Prop :=
  ∀ (pins : List (Addr × Obj)) (s : Shared) (σ : St) (H : Hp) (x : V) (xs : List V) (v : Value) (us : List Value) (Q : VK), Inv X pins σ H s → RelV x v → Vals xs us → r x xs H Q →
    wpAny (model X.prog X.w) X.A (call (.builtin id) (v :: us)) (EP X pins σ Q) X.xe s

theorem Vals.one : ∀ {x : V} {us : List Value}, Vals [x] us → ∃ u, us = [u] ∧ RelV x u
  | _, _, .cons r .nil => ⟨_, rfl, r⟩
section
variable {X : Cx} {pins : List (Addr × Obj)} {σ : St} {H : Hp} {s : Shared} {l b : Addr} {xs ys zs : List V}

theorem Inv.lset {its its' : List Value} {n : Nat} {f : Array Value → Array Value} {t' : Nat} (I : Inv X pins σ H s) (hH : H l = some (.lst xs))
    (e : s.heap.get? l = some { cls := .type "list", data := .seq its.toArray n }) (hf : f its.toArray = its'.toArray) (hv : Vals ys its') (hz : ys.length ≤ sizeLine) :
    Inv X pins σ (upd H l (.lst ys)) { s with heap := s.heap.update l (Obj.mapSeq f), toks := t' } := by
  have q := PySem.IsL.update e f
  rw [hf] at q
  refine I.write (x := l) (e := l) (by rw [hH]; exact trivial) (.inl rfl) (fun b' u hb hu => (Heap.get?_update_other s.heap (Obj.mapSeq f) (Ne.symm hb)).trans hu) ⟨_, q⟩ ?_
  exact ⟨hz, its', _, hv, q⟩
theorem Inv.lnew {its : List Value} {t' : Nat} (I : Inv X pins σ H s) (hv : Vals ys its) (hz : ys.length ≤ sizeLine) :
    Inv X pins σ (upd H s.heap.objs.size (.lst ys)) { s with heap := s.heap.push { cls := .type "list", data := .seq its.toArray }, toks := t' } :=
  I.laid (fun _ _ q => Heap.get?_push_of_some _ q) (Nat.le_refl _) ⟨hz, its, 0, hv, Heap.get?_push_size _ rfl⟩
theorem Inv.fresh (I : Inv X pins σ H s) : H s.heap.objs.size = none := I.hok.fresh (Nat.le_refl _)
theorem Inv.lstM (I : Inv X pins σ H s) (hH : H l = some (.lst xs)) : xs.length ≤ sizeLine ∧ ∃ (its : List Value) (n : Nat), Vals xs its ∧ xs.length = its.length ∧ s.heap.get? l = some { cls := .type "list", data := .seq its.toArray n } := by
  obtain ⟨z, its, n, r, e⟩ := I.hok l _ hH
  exact ⟨z, its, n, r, r.length, e⟩

end

section
variable {X : Cx}

def rAppend : V → List V → Hp → VK → Prop := fun x vs H Q => ∃ l xs y, x = .ref l ∧ vs = [y] ∧ H l = some (.lst xs) ∧ xs.length < sizeLine ∧ Q .non (upd H l (.lst (xs ++ [y])))
theorem mt_append : MtM X "list.append" rAppend := by
  intro pins s σ H x vs v us Q I rx rv h
  obtain ⟨l, xs, y, rfl, rfl, hH, hz, q⟩ := h
  cases rx
  obtain ⟨u, rfl, ru⟩ := rv.one
  obtain ⟨z, its, n, r, hl, e⟩ := I.lstM hH
  refine call_meets F.slot_list_append ⟨_, e, rfl⟩ F.entry_list_append (F.args_list_append_2 _ _) (PySem.list_append l its.toArray n u (by rw [List.size_toArray]; omega)) ⟨e, ?_⟩
  refine ⟨.non, _, I.lset (its' := its ++ [u]) hH e (by simp) (r.append (.cons ru .nil)) ?_, rfl, q⟩
  rw [List.length_append, List.length_singleton]
  omega

end

section
variable {prog : Program} {w : World} {A : Around} {E : Value → Shared → Prop} {s : Shared}
end

section
variable {X : Cx}
end
end L2

namespace L2
open PySem PySem.Spec PyProof.Rows

section
variable {prog : Program} {w : World} {A : Around} {E : Value → Shared → Prop} {s : Shared} {l : Addr} {its : List Value} {ns : List Int} {Q : Value → Shared → Prop}
end

section
variable {X : Cx}
end

section
variable {X : Cx}
end

section
variable {X : Cx}
end

section
variable {X : Cx}
end

mutual
inductive Dp (K : PySem.W.Frag) (H : Hp) : V → PyData → Prop
  | non : Dp K H .non .none
  | bl (b : Bool) : Dp K H (.bl b) (.bool b)
  | int (i : Int) : Dp K H (.int i) (.int i)
  | str (x : Str) : Dp K H (.str x) (.str x)
  | lst {a : Addr} {xs : List V} {ds : List PyData} : SqL K H a xs → DpAll K H xs ds → Dp K H (.ref a) (.list ds)
  | tup {a : Addr} {xs : List V} {ds : List PyData} : SqT K H a xs → DpAll K H xs ds → Dp K H (.ref a) (.tuple ds)
inductive DpAll (K : PySem.W.Frag) (H : Hp) : List V → List PyData → Prop
  | nil : DpAll K H [] []
  | cons {v : V} {vs : List V} {d : PyData} {ds : List PyData} : Dp K H v d → DpAll K H vs ds → DpAll K H (v :: vs) (d :: ds)
end
section
variable {X : Cx} {pins : List (Addr × Obj)} {σ : St} {H : Hp} {s : Shared}
mutual
theorem Dp.reads (I : Inv X pins σ H s) : ∀ (d : PyData) (v : V) (u : Value), Dp X.K H v d → RelV v u → ∃ as, Reads s.heap u d as
  | .none, _, _, h, r => by
    cases h
    cases r
    exact ⟨_, Reads.none⟩
  | .bool b, _, _, h, r => by
    cases h
    cases r
    exact ⟨_, Reads.bool b⟩
  | .int i, _, _, h, r => by
    cases h
    obtain ⟨t, rfl⟩ := r
    exact ⟨_, Reads.int i t⟩
  | .str x, _, _, h, r => by
    cases h
    obtain ⟨t, rfl⟩ := r
    exact ⟨_, Reads.str x t⟩
  | .list ds, _, _, h, r => by
    cases h with
    | lst hs ha =>
      cases r
      obtain ⟨its, rv, ⟨o, n, ho, hc, _, hd⟩, _⟩ := I.list hs
      obtain ⟨as, hr⟩ := Dp.readsAll I ds _ its ha rv
      exact ⟨_, Reads.list ho hc hd hr⟩
  | .tuple ds, _, _, h, r => by
    cases h with
    | tup hs ha =>
      cases r
      obtain ⟨its, rv, ⟨o, ho, hc, n, hd⟩, _⟩ := I.tuple hs
      obtain ⟨as, hr⟩ := Dp.readsAll I ds _ its ha rv
      exact ⟨_, Reads.tuple ho hc hd hr⟩
  | .dict _, _, _, h, _ => by cases h
theorem Dp.readsAll (I : Inv X pins σ H s) : ∀ (ds : List PyData) (vs : List V) (us : List Value), DpAll X.K H vs ds → Vals vs us → ∃ as, ReadsAll s.heap us ds as
  | [], _, _, h, r => by
    cases h
    cases r
    exact ⟨_, ReadsAll.nil⟩
  | d :: ds, _, _, h, r => by
    cases h with
    | cons h1 h2 =>
      cases r with
      | cons r1 r2 =>
        obtain ⟨as, q1⟩ := Dp.reads I d _ _ h1 r1
        obtain ⟨bs, q2⟩ := Dp.readsAll I ds _ _ h2 r2
        exact ⟨_, ReadsAll.cons q1 q2⟩
end
end
section
variable {X : Cx}
end
end L2

namespace L2
open PySem PySem.Spec PyProof.Rows
abbrev CellAt (h : Heap) (c : Addr) (v : Option Value) : Prop := h.IsCell c v
def relS (scope sc : Scope) : Scope :=
  { scope with names := scope.names.map fun (n, k) => if (k == .free && sc.kind == .function && sc.names.lookup n == some .cell) then (n, .cell) else (n, k) }

def cloFrom (cells : List (Str × Addr)) : List (Str × NameKind) → List (Str × Addr) → List (Str × Addr)
  | [], acc => acc
  | (n, k) :: r, acc => if k == .free then cloFrom cells r ((n, (cells.lookup n).getD 0) :: acc) else cloFrom cells r acc

theorem closure_loop (env : Env) (f : Str × NameKind → List (Str × Addr) → Sem (ForInStep (List (Str × Addr))))
    (hf : ∀ n k c, f (n, k) c = if k == .free then (do let a ← cellOf env n; pure (.yield ((n, a) :: c))) else pure (.yield c)) :
    ∀ (names : List (Str × NameKind)) (acc : List (Str × Addr)), (∀ y ∈ names, y.2 = .free → ∃ c, env.cells.lookup y.1 = some c) → forIn names acc f = pure (cloFrom env.cells names acc)
  | [], acc, _ => by rw [List.forIn_nil]; rfl
  | (n, k) :: r, acc, h => by
    rw [List.forIn_cons, hf]
    have ih := fun acc => closure_loop env f hf r acc fun y hy => h y (List.mem_cons_of_mem _ hy)
    unfold cloFrom
    by_cases hk : (k == NameKind.free) = true
    · rw [if_pos hk, if_pos hk]
      obtain ⟨c, hc⟩ := h (n, k) List.mem_cons_self (by simpa using hk)
      have e : cellOf env n = pure c := by unfold cellOf; rw [hc]
      rw [e]
      have e2 : (env.cells.lookup n).getD 0 = c := by rw [hc]; rfl
      rw [e2]
      exact ih _
    · rw [if_neg hk, if_neg hk]
      exact ih _
theorem closure_ok {scope : Scope} {env : Env} (h : ∀ y ∈ scope.names, y.2 = .free → ∃ c, env.cells.lookup y.1 = some c) : closureFor scope env = pure (cloFrom env.cells scope.names []) := by
  simp only [closureFor]
  rw [closure_loop env _ (fun n k c => rfl) scope.names [] h]
  rfl

theorem mem_lookup {α : Type} : ∀ {l : List (Str × α)} {n : Str} {c : α}, (n, c) ∈ l → ∃ c', l.lookup n = some c'
  | (k, v) :: r, n, c, h => by
    rw [List.lookup_cons]
    cases hb : n == k with
    | true => exact ⟨_, rfl⟩
    | false =>
      rcases List.mem_cons.mp h with e | h
      · cases e; simp at hb
      · exact mem_lookup h

theorem cloFrom_mem {cells : List (Str × Addr)} : ∀ {names : List (Str × NameKind)} {acc : List (Str × Addr)} {n : Str} {c : Addr}, (n, c) ∈ cloFrom cells names acc → (n, c) ∈ acc ∨ ((n, .free) ∈ names ∧ c = (cells.lookup n).getD 0)
  | [], _, _, _, h => .inl h
  | (m, k) :: r, acc, n, c, h => by
    unfold cloFrom at h
    split at h
    · rename_i hk
      have hk : k = .free := by simpa using hk
      rcases cloFrom_mem h with h | ⟨h1, h2⟩
      · rcases List.mem_cons.mp h with e | h
        · cases e; exact .inr ⟨hk ▸ List.mem_cons_self, rfl⟩
        · exact .inl h
      · exact .inr ⟨List.mem_cons_of_mem _ h1, h2⟩
    · rcases cloFrom_mem h with h | ⟨h1, h2⟩
      · exact .inl h
      · exact .inr ⟨List.mem_cons_of_mem _ h1, h2⟩
theorem cloFrom_acc {cells : List (Str × Addr)} : ∀ {names : List (Str × NameKind)} {acc : List (Str × Addr)} {p : Str × Addr}, p ∈ acc → p ∈ cloFrom cells names acc
  | [], _, _, h => h
  | (m, k) :: r, acc, p, h => by
    unfold cloFrom
    split
    · exact cloFrom_acc (List.mem_cons_of_mem _ h)
    · exact cloFrom_acc h
theorem cloFrom_has {cells : List (Str × Addr)} : ∀ {names : List (Str × NameKind)} {acc : List (Str × Addr)} {n : Str}, (n, .free) ∈ names → (n, (cells.lookup n).getD 0) ∈ cloFrom cells names acc
  | (m, k) :: r, acc, n, h => by
    unfold cloFrom
    rcases List.mem_cons.mp h with e | h
    · cases e
      exact cloFrom_acc List.mem_cons_self
    · split
      · exact cloFrom_has h
      · exact cloFrom_has h

theorem cells_mem : ∀ {names : List (Str × NameKind)} {h : Heap} {acc : List (Str × Addr)} {x : Str} {c : Addr}, (x, c) ∈ cellsFrom h.objs.size names acc →
    (x, c) ∈ acc ∨ ((x, .cell) ∈ names ∧ h.objs.size ≤ c ∧ CellAt (pushCells h names) c none)
  | [], _, _, _, _, h => .inl h
  | (n, k) :: r, h, acc, x, c, hm => by
    unfold cellsFrom at hm
    unfold pushCells
    split at hm
    · rename_i hk
      rw [if_pos hk]
      have hk : k = .cell := by simpa using hk
      rw [← Heap.size_push h { cls := .type "cell", data := .cell none }] at hm
      rcases cells_mem hm with hm | ⟨h1, h2, h3⟩
      · rcases List.mem_cons.mp hm with e | hm
        · cases e
          exact .inr ⟨hk ▸ List.mem_cons_self, Nat.le_refl _, _, pushCells_keeps r _ _ _ (Heap.get?_push_size _ rfl), rfl⟩
        · exact .inl hm
      · rw [Heap.size_push] at h2
        exact .inr ⟨List.mem_cons_of_mem _ h1, Nat.le_of_succ_le h2, h3⟩
    · rename_i hk
      rw [if_neg hk]
      rcases cells_mem hm with hm | ⟨h1, h2, h3⟩
      · exact .inl hm
      · exact .inr ⟨List.mem_cons_of_mem _ h1, h2, h3⟩
theorem cells_acc : ∀ {names : List (Str × NameKind)} {n : Nat} {acc : List (Str × Addr)} {p : Str × Addr}, p ∈ acc → p ∈ cellsFrom n names acc
  | [], _, _, _, h => h
  | (m, k) :: r, n, acc, p, h => by
    unfold cellsFrom
    split
    · exact cells_acc (List.mem_cons_of_mem _ h)
    · exact cells_acc h
theorem cells_has : ∀ {names : List (Str × NameKind)} {n : Nat} {acc : List (Str × Addr)} {x : Str}, (x, .cell) ∈ names → ∃ c, (x, c) ∈ cellsFrom n names acc
  | (m, k) :: r, n, acc, x, h => by
    unfold cellsFrom
    rcases List.mem_cons.mp h with e | h
    · cases e
      exact ⟨n, cells_acc List.mem_cons_self⟩
    · split
      · exact cells_has h
      · exact cells_has h
theorem cells_inj : ∀ {names : List (Str × NameKind)} {h : Heap} {acc : List (Str × Addr)} {x y : Str} {c : Addr}, (∀ p ∈ acc, p.2 < h.objs.size) → (∀ x y c, (x, c) ∈ acc → (y, c) ∈ acc → x = y) →
    (x, c) ∈ cellsFrom h.objs.size names acc → (y, c) ∈ cellsFrom h.objs.size names acc → x = y
  | [], _, _, _, _, _, _, hi, h1, h2 => hi _ _ _ h1 h2
  | (n, k) :: r, h, acc, x, y, c, hl, hi, h1, h2 => by
    unfold cellsFrom at h1 h2
    split at h1
    · rename_i hk
      rw [if_pos hk] at h2
      rw [← Heap.size_push h { cls := .type "cell", data := .cell none }] at h1 h2
      refine cells_inj (h := h.push _) (fun p hp => ?_) (fun x y c a b => ?_) h1 h2
      · rw [Heap.size_push]
        rcases List.mem_cons.mp hp with rfl | hp
        · exact Nat.lt_succ_self _
        · exact Nat.lt_succ_of_lt (hl p hp)
      · rcases List.mem_cons.mp a with e | a <;> rcases List.mem_cons.mp b with e' | b
        · cases e; cases e'; rfl
        · cases e; exact absurd (hl _ b) (Nat.lt_irrefl _)
        · cases e'; exact absurd (hl _ a) (Nat.lt_irrefl _)
        · exact hi _ _ _ a b
    · rename_i hk
      rw [if_neg hk] at h2
      exact cells_inj hl hi h1 h2

theorem newEnv_comp {M : Model} {A : Around} {E : Value → Shared → Prop} {s : Shared} {scope : Scope} {globals : Addr} {closure : List (Str × Addr)} {qual : Str} {func : Option Addr} {code : Value} {around : Env} {builtins : Addr} {Q : Env → Shared → Prop}
    (h : Q (newEnv scope s.heap.objs.size globals (cellsFrom (s.heap.objs.size + 1) scope.names closure) qual func code (some around) builtins)
      { s with heap := pushCells (s.heap.push { cls := .type "dict", data := .dict #[] }) scope.names }) :
    wpAny M A (newFunctionEnv scope globals closure [] qual func code (some around) builtins) Q E s := by
  simp only [newFunctionEnv, Option.isSome_some, if_true]
  refine wpAny_bind (wpAny_alloc ?_)
  refine wpAny_bind (wpAny_layCells _ (fun n k c => rfl) scope.names closure _ _ ?_)
  rw [show ({ s with heap := s.heap.push { cls := .type "dict", data := .dict #[] } } : Shared).heap.objs.size = s.heap.objs.size + 1 from Heap.size_push ..]
  rw [List.forIn_nil]
  exact wpAny_bind (wpAny_pure (wpAny_pure h))

theorem lookup_relS {sc : Scope} : ∀ {names : List (Str × NameKind)} {x : Str} {k : NameKind},
    (names.map fun (n, k) => if (k == NameKind.free && sc.kind == .function && sc.names.lookup n == some .cell) then (n, NameKind.cell) else (n, k)).lookup x = some k →
    ∃ k', names.lookup x = some k' ∧ (k = k' ∨ (k' = .free ∧ k = .cell))
  | [], _, _, h => by simp at h
  | (n, k₀) :: r, x, k, h => by
    have ih := @lookup_relS sc r x k
    have h' : List.lookup x ((if (k₀ == NameKind.free && sc.kind == .function && sc.names.lookup n == some .cell) = true then (n, NameKind.cell) else (n, k₀)) :: (r.map _)) = some k := h
    cases hx : x == n with
    | true =>
      simp only [List.lookup_cons, hx]
      by_cases hc : (k₀ == NameKind.free && sc.kind == .function && sc.names.lookup n == some .cell) = true
      · rw [if_pos hc] at h'
        simp only [List.lookup_cons, hx] at h'
        cases h'
        simp only [Bool.and_eq_true, beq_iff_eq] at hc
        exact ⟨k₀, rfl, .inr ⟨hc.1.1, rfl⟩⟩
      · rw [if_neg hc] at h'
        simp only [List.lookup_cons, hx] at h'
        cases h'
        exact ⟨_, rfl, .inl rfl⟩
    | false =>
      simp only [List.lookup_cons, hx]
      by_cases hc : (k₀ == NameKind.free && sc.kind == .function && sc.names.lookup n == some .cell) = true
      · rw [if_pos hc] at h'
        simp only [List.lookup_cons, hx] at h'
        exact ih h'
      · rw [if_neg hc] at h'
        simp only [List.lookup_cons, hx] at h'
        exact ih h'
structure BlkOk (N : List Str) (sc scope : Scope) (own : List (Str × Nat)) : Prop where
  kind : scope.kind = .function
  uniq : ∀ y ∈ scope.names, scope.names.lookup y.1 = some y.2
  ix : ∀ p ∈ own, N[p.2]? = some p.1
  free : ∀ y ∈ scope.names, y.2 = .free → sc.names.lookup y.1 = some .cell ∨ sc.names.lookup y.1 = some .free
  own : ∀ y ∈ scope.names, y.2 = .local ∨ y.2 = .cell → y.1 ∈ own.map (·.1) ∨ y.1 ∉ N
def wipe (σ : St) : List Nat → St
  | [] => σ
  | v :: vs => (wipe σ vs).set v none
theorem wipe_length (σ : St) : ∀ vs : List Nat, (wipe σ vs).length = σ.length
  | [] => rfl
  | v :: vs => by unfold wipe; rw [List.length_set, wipe_length σ vs]
theorem wipe_some {σ : St} {i : Nat} {x : V} : ∀ {vs : List Nat}, (wipe σ vs)[i]? = some (some x) → σ[i]? = some (some x) ∧ i ∉ vs
  | [], h => ⟨h, by simp⟩
  | v :: vs, h => by
    unfold wipe at h
    by_cases hi : v = i
    · subst hi
      by_cases hv : v < (wipe σ vs).length
      · rw [List.getElem?_set_self hv] at h; cases h
      · rw [List.getElem?_eq_none (by simpa using hv)] at h; cases h
    · rw [List.getElem?_set_ne hi] at h
      obtain ⟨h1, h2⟩ := wipe_some h
      exact ⟨h1, by simp only [List.mem_cons, not_or]; exact ⟨fun e => hi e.symm, h2⟩⟩

abbrev Cx.blk (X : Cx) (s : Shared) (H : Hp) (scope : Scope) (cenv : Env) (fp : List Addr) : Cx := { X with s_0 := s, H_0 := H, env := cenv, outer := X.stack, ex := fp, fn := fun x => scope.names.lookup x == some .cell, pn := [], xe := fun _ _ => False }
section
variable {X : Cx} {pins : List (Addr × Obj)} {σ : St} {H : Hp} {s : Shared}
theorem block_start {scope : Scope} {own : List (Str × Nat)} {fp : List Addr} (I : Inv X pins σ H s) (ok : BlkOk X.N X.env.scope scope own) (hN : X.N.Nodup) (hfp : ∀ b ∈ fp, FpOk X pins H b ∧ b < s.heap.objs.size) :
    Inv (X.blk s H scope (compEnvC scope (cellsFrom (s.heap.objs.size + 1) scope.names (cloFrom X.env.cells scope.names [])) s.heap.objs.size X.env) fp) [] (wipe σ (own.map (·.2))) H { s with heap := pushCells (s.heap.push { cls := .type "dict", data := .dict #[] }) scope.names } := by
  have hfree : ∀ y ∈ scope.names, y.2 = .free → ∃ c, X.env.cells.lookup y.1 = some c := fun y hy e => by
    rcases ok.free y hy e with k | k
    · exact I.ok.has _ (.inl k)
    · exact I.ok.has _ (.inr k)
  generalize hcenv : compEnvC scope (cellsFrom (s.heap.objs.size + 1) scope.names (cloFrom X.env.cells scope.names [])) s.heap.objs.size X.env = cenv
  have kp : ∀ b o, s.heap.get? b = some o → (pushCells (s.heap.push { cls := .type "dict", data := .dict #[] }) scope.names).get? b = some o := fun b o e => pushCells_keeps _ _ _ _ (Heap.get?_push_of_some _ e)
  have hL : cenv.locals = s.heap.objs.size := by rw [← hcenv]; rfl
  have hcl : cenv.cells = cellsFrom (s.heap.objs.size + 1) scope.names (cloFrom X.env.cells scope.names []) := by rw [← hcenv]; rfl
  have hsc : cenv.scope = relS scope X.env.scope := by rw [← hcenv]; rfl
  rw [← Heap.size_push s.heap { cls := .type "dict", data := .dict #[] }] at hcl
  have cm : ∀ {y c}, (y, c) ∈ cloFrom X.env.cells scope.names [] → X.env.cells.lookup y = some c ∧ c < s.heap.objs.size := fun {y c} hm => by
    rcases cloFrom_mem hm with hm | ⟨h1, rfl⟩
    · cases hm
    · obtain ⟨c, hc⟩ := hfree _ h1 rfl
      rw [hc]
      obtain ⟨w, z⟩ := I.cell _ _ hc
      exact ⟨rfl, z.lt⟩
  have mem : ∀ {y c}, cenv.cells.lookup y = some c → (X.env.cells.lookup y = some c ∧ c < s.heap.objs.size) ∨ (s.heap.objs.size + 1 ≤ c ∧ CellAt (pushCells (s.heap.push { cls := .type "dict", data := .dict #[] }) scope.names) c none) := fun {y c} e => by
    rw [hcl] at e
    rcases cells_mem (PySem.mem_of_lookup e) with hm | ⟨_, h2, h3⟩
    · exact .inl (cm hm)
    · rw [Heap.size_push] at h2; exact .inr ⟨h2, h3⟩
  have look : ∀ {y}, scope.names.lookup y = some .free → ∃ c, cenv.cells.lookup y = some c ∧ X.env.cells.lookup y = some c := fun {y} hl => by
    have hy : (y, NameKind.free) ∈ scope.names := PySem.mem_of_lookup hl
    obtain ⟨c', e'⟩ := mem_lookup (cells_acc (names := scope.names) (n := (s.heap.push { cls := .type "dict", data := .dict #[] }).objs.size) (cloFrom_has (cells := X.env.cells) (acc := []) hy))
    rw [← hcl] at e'
    refine ⟨c', e', ?_⟩
    rw [hcl] at e'
    rcases cells_mem (PySem.mem_of_lookup e') with hm | ⟨h1, _, _⟩
    · exact (cm hm).1
    · have := ok.uniq _ h1
      rw [hl] at this; cases this
  have okB : (X.blk s H scope cenv fp).Ok := by
    refine ⟨I.ok.mod, by show cenv.scope.kind = _; rw [hsc]; exact ok.kind, by show cenv.globals = _; rw [← hcenv]; exact I.ok.glob, by show cenv.builtins = _; rw [← hcenv]; exact I.ok.blt, by show s.heap.objs.size ≤ cenv.locals; rw [hL]; exact Nat.le_refl _,
      fun y z c e1 e2 => ?_, fun y hy => ?_, fun y c z e => ?_, I.ok.hd, I.ok.frames, .inl rfl, fun b hb => ⟨?_, fun y c e z => ?_⟩, I.bs, Nat.le_trans I.ok.bsz I.sz, fun b o e hb => ?_, fun b hb z => ?_, I.stack, I.stkFree⟩
    · have e1 : cenv.cells.lookup y = some c := e1
      have e2 : cenv.cells.lookup z = some c := e2
      rw [hcl] at e1 e2
      refine cells_inj (fun p hp => ?_) (fun y z c a b => I.ok.inj y z c (cm a).1 (cm b).1) (PySem.mem_of_lookup e1) (PySem.mem_of_lookup e2)
      rw [Heap.size_push]
      exact Nat.lt_succ_of_lt (cm (y := p.1) (c := p.2) hp).2
    · show ∃ c, cenv.cells.lookup y = some c
      have key : ∀ k, cenv.kindOf y = some k → (k = .cell ∨ k = .free) → ∃ c, cenv.cells.lookup y = some c := fun k hk hk' => by
        unfold Env.kindOf at hk
        rw [hsc] at hk
        obtain ⟨k', e, r⟩ := lookup_relS hk
        have : k' = .cell ∨ k' = .free := by
          rcases r with rfl | ⟨rfl, _⟩
          · exact hk'
          · exact .inr rfl
        rcases this with rfl | rfl
        · obtain ⟨c, hm⟩ := cells_has (n := (s.heap.push { cls := .type "dict", data := .dict #[] }).objs.size) (acc := cloFrom X.env.cells scope.names []) (PySem.mem_of_lookup e)
          obtain ⟨c', e'⟩ := mem_lookup hm
          exact ⟨c', by rw [hcl]; exact e'⟩
        · obtain ⟨c, h1, _⟩ := look e
          exact ⟨c, h1⟩
      rcases hy with hy | hy
      · exact key _ hy (.inl rfl)
      · exact key _ hy (.inr rfl)
    · have z : (scope.names.lookup y == some NameKind.cell) = true := z
      have z : scope.names.lookup y = some .cell := by simpa using z
      have e : cenv.cells.lookup y = some c := e
      rw [hcl] at e
      rcases cells_mem (PySem.mem_of_lookup e) with hm | ⟨_, h2, _⟩
      · rcases cloFrom_mem hm with hm | ⟨h1, _⟩
        · cases hm
        · have q := ok.uniq _ h1
          rw [z] at q; cases q
      · rw [Heap.size_push] at h2
        exact Nat.le_of_succ_le h2
    · show b ≠ cenv.locals
      rw [hL]; exact Nat.ne_of_lt (hfp b hb).2
    · have e : cenv.cells.lookup y = some c := e
      rcases mem e with ⟨h1, _⟩ | ⟨h1, _⟩
      · exact (hfp b hb).1.2.2.2.2.1 y c h1 z
      · have h2 : s.heap.objs.size + 1 ≤ b := by rw [← z]; exact h1
        exact absurd (Nat.lt_of_lt_of_le (hfp b hb).2 (Nat.le_of_succ_le h2)) (Nat.lt_irrefl _)
    · rcases (hfp b hb).1.2.2.2.1 with z | z
      · exact I.ok.noex b o e z
      · exact absurd (Nat.lt_of_lt_of_le (Heap.lt_size e) (Nat.le_trans I.ok.bsz z)) (Nat.lt_irrefl _)
    · rcases List.mem_cons.mp (I.stkSub b z) with z | z
      · exact (hfp b hb).1.2.1 z
      · exact (hfp b hb).1.2.2.1 z
  refine ⟨okB, rfl, I.bare, Un.kept kp, ⟨fun _ => none, ?_, fun i y av e1 e2 e3 => ?_⟩, fun y c e => ?_, ?_, fun y c e => ?_, fun p hp => ?_, I.hok.kept kp, by rw [wipe_length]; exact I.len⟩
  · show Heap.Ns _ cenv.locals _
    rw [hL]
    exact Heap.Ns.keeps (Heap.Ns.new ..) fun b o e => pushCells_keeps _ _ _ _ e
  · obtain ⟨e2, hne⟩ := wipe_some e2
    have hfr : scope.names.lookup y = some .free ∧ (cenv.kindOf y = some .cell ∨ cenv.kindOf y = some .free) := by
      have key : ∀ k, cenv.scope.names.lookup y = some k → k = .local ∨ k = .cell ∨ k = .free → scope.names.lookup y = some .free ∧ (cenv.kindOf y = some .cell ∨ cenv.kindOf y = some .free) := fun k hk hk' => by
        have hk0 := hk
        rw [hsc] at hk
        obtain ⟨k', e, r⟩ := lookup_relS hk
        have no : ¬ (k' = .local ∨ k' = .cell) := fun hh => by
          rcases ok.own _ (PySem.mem_of_lookup e) hh with e' | e'
          · obtain ⟨p, hp, hpy⟩ := List.mem_map.mp e'
            have e3 := ok.ix p hp
            have : p.1 = y := hpy
            rw [this] at e3
            exact hne (List.mem_map.mpr ⟨p, hp, nodup_ix hN e3 e1⟩)
          · exact e' (List.mem_of_getElem? e1)
        rcases r with rfl | ⟨rfl, rfl⟩
        · rcases hk' with rfl | rfl | rfl
          · exact absurd (.inl rfl) no
          · exact absurd (.inr rfl) no
          · exact ⟨e, .inr hk0⟩
        · exact ⟨e, .inl hk0⟩
      have e3 : Vis cenv.scope y := e3
      rcases e3 with e3 | e3 | e3
      · exact key _ e3 (.inl rfl)
      · exact key _ e3 (.inr (.inl rfl))
      · exact key _ e3 (.inr (.inr rfl))
    obtain ⟨m, hn, hl⟩ := I.loc
    have hvis : Vis X.env.scope y := (ok.free _ (PySem.mem_of_lookup hfr.1) rfl).elim (fun k => .inr (.inl k)) (fun k => .inr (.inr k))
    obtain ⟨w, r, q⟩ := hl i y av e1 e2 hvis
    refine ⟨w, r, .inr ⟨hfr.2, ?_⟩⟩
    obtain ⟨c, h1, h2⟩ := look hfr.1
    rcases q with ⟨k, _⟩ | ⟨_, c', e', z⟩
    · have k : X.env.scope.names.lookup y = some .local := k
      rcases ok.free _ (PySem.mem_of_lookup hfr.1) rfl with k' | k' <;> rw [show X.env.scope.names.lookup y = _ from k'] at k <;> cases k
    · rw [h2] at e'; cases e'
      exact ⟨c, h1, z.keeps kp⟩
  · have e : cenv.cells.lookup y = some c := e
    rcases mem e with ⟨h1, _⟩ | ⟨_, z⟩
    · obtain ⟨w, z⟩ := I.cell y c h1
      exact ⟨w, z.keeps kp⟩
    · exact ⟨_, z⟩
  · show H cenv.locals = none
    rw [hL]; exact I.hok.fresh (Nat.le_refl _)
  · have e : cenv.cells.lookup y = some c := e
    rcases mem e with ⟨h1, _⟩ | ⟨h1, _⟩
    · exact I.freeC y c h1
    · exact I.hok.fresh (Nat.le_of_succ_le h1)
  · exact absurd (show p ∈ ([] : List (Addr × Obj)) ++ [] from hp) (by simp)

theorem app_ok {E : Value → Shared → Prop} {D : Addr} {xs : List V} {y : V} {v : Value} {Q : Value → Shared → Prop} (I : Inv X pins σ H s) (hD : H D = some (.lst xs)) (hz : xs.length < sizeLine) (r : RelV y v)
    (h : ∀ s', Inv X pins σ (upd H D (.lst (xs ++ [y]))) s' → Q .none s') : wpAny (model X.prog X.w) X.A (call (.builtin "list.append") [.ref D, v]) Q E s := by
  obtain ⟨hz', its, n, ri, e⟩ := I.hok D _ hD
  have hl := ri.length
  refine append_at (hsz := by rw [List.size_toArray]; omega) e fun h' sb ho' => ?_
  refine h { s with heap := h' } (I.write (t' := s.toks) (by rw [hD]; trivial) (.inl rfl) (fun b u hb q => (sb.2 b hb).trans q) ⟨_, ho'⟩ ⟨by rw [List.length_append]; exact hz, its ++ [v], n + 1, ri.append (.cons r .nil), ?_⟩)
  rw [ho']
  simp

def PTs (X : Cx) (ifs : List Expr) (t : TT) : Prop :=
  ∀ (pins : List (Addr × Obj)) (s : Shared) (σ : St) (H : Hp) (Q : Bool → Hp → Prop), Inv X pins σ H s → t σ H Q →
    wpAny (model X.prog X.w) X.A (forIn ifs true fun c r => if r = true then do let ok ← isTrue c X.env (eval c X.env); pure (ForInStep.yield ok) else pure (ForInStep.yield r)) (TP X pins σ Q) X.xe s
def tYes : TT := fun _ H Q => Q true H
theorem pts_nil : PTs X [] tYes := fun _ _ _ H _ I h => wpAny_tests_nil ⟨H, I, h⟩
end

theorem thnF {α : Type} {t : Sem α} {Q Q' : α → Shared → Prop} {M : Model} {A : Around} {E : Value → Shared → Prop} {s : Shared} (h : wpAny M A t Q (fun _ _ => False) s) (hQ : ∀ a s, Q a s → Q' a s) : wpAny M A t Q' E s := wpAny_mono h hQ fun _ _ z => False.elim z

theorem compLoop_any {prog : Program} {w : World} {A : Around} {R : Result → Shared → Prop} {s : Shared} {elt target iter : Expr} {ifs : List Expr} {scope : Scope} {pos : Pos} {it acc : Value} {env : Env} (I : Nat → Shared → Prop)
    (turn : ∀ n s, I n s → wpAny (model prog w) A (pyNext it) (fun r s₁ => match r with
      | none => R (.ok .next) s₁
      | some v => wpAny (model prog w) A (letOwnedTupleGo target it v) (fun _ s₁' => wpAny (model prog w) A (assign target env v) (fun _ s₂ =>
          wpAny (model prog w) A (forIn ifs true fun c r => if r = true then do let ok ← isTrue c env (eval c env); pure (ForInStep.yield ok) else pure (ForInStep.yield r)) (fun ok s₃ =>
            if ok = true then wpAny (model prog w) A (eval elt env) (fun x s₄ =>
              wpAny (model prog w) A (call (.builtin "list.append") [acc, x]) (fun _ s₅ => ∃ m, m < n ∧ I m s₅) (notedBy (model prog w) A env fun e s' => R (.error e) s') s₄) (notedBy (model prog w) A env fun e s' => R (.error e) s') s₃
            else ∃ m, m < n ∧ I m s₃) (notedBy (model prog w) A env fun e s' => R (.error e) s') s₂) (notedBy (model prog w) A env fun e s' => R (.error e) s') s₁') (notedBy (model prog w) A env fun e s' => R (.error e) s') s₁) (notedBy (model prog w) A env fun e s' => R (.error e) s') s)
    (n : Nat) (h : I n s) :
    codeAny (model prog w) A (.compLoop (.ListComp elt [⟨target, iter, ifs, 0⟩] scope pos) 0 it acc env) R s := by
  refine codeAny_loop rfl I (fun n s hI => ?_) n h
  show wpAny _ A ((compTurn (.ListComp elt [⟨target, iter, ifs, 0⟩] scope pos) 0 it acc env).onRaise (fun x => do noteFrame x env; theTreesLotGoes x)) _ _ s
  refine wpAny_noted ?_
  rw [compTurn_list]
  refine wpAny_bind (wpAny_standAt (wpAny_bind (wpAny_mono (turn n s hI) (fun r s₁ h₁ => ?_) fun _ _ h' => h')))
  cases r with
  | none => exact wpAny_pure h₁
  | some v =>
    refine wpAny_bind (wpAny_mono h₁ (fun _ s₁' h₁' => ?_) fun _ _ h' => h')
    refine wpAny_bind (wpAny_mono h₁' (fun _ s₂ h₂ => wpAny_bind (wpAny_mono h₂ (fun ok s₃ h₃ => ?_) fun _ _ h' => h')) fun _ _ h' => h')
    cases ok with
    | false => exact wpAny_pure ⟨rfl, h₃⟩
    | true =>
      exact wpAny_bind (wpAny_bind (wpAny_mono h₃ (fun x s₄ h₄ => wpAny_bind (wpAny_mono h₄ (fun _ s₅ h₅ => wpAny_pure (wpAny_pure ⟨rfl, h₅⟩)) fun _ _ h' => h')) fun _ _ h' => h'))

section
variable {X : Cx}
def tLc (wi : TI) (g : TG) (tt : TT) (te : TE) (vs : List Nat) : TE := fun σ H Q => wi σ H fun J H1 => ∀ D, H1 D = none → ∃ W : Nat → Nat → Hp → Prop, (∃ m, W 0 m (upd H1 D (.lst []))) ∧ ∀ i m H, W i m H →
  (J.stop i H ∧ Q (.ref D) H) ∨ (J.go i H ∧ ∃ Nx : Hp → Prop, (∀ H', Nx H' → ∃ m', m' < m ∧ W (i + 1) m' H') ∧ ∀ x H', J.yld i H x H' → g x (wipe σ vs) H' fun σ2 H2 => wipe σ2 vs = wipe σ vs ∧ tt σ2 H2 fun b H3 =>
    if b = true then te σ2 H3 fun y H4 => ∃ acc, H4 D = some (.lst acc) ∧ acc.length < sizeLine ∧ Nx (upd H4 D (.lst (acc ++ [y]))) else Nx H3)
theorem lc_core {pins : List (Addr × Obj)} {s : Shared} {σ : St} {H : Hp} {Q : VK} {elt tg iter : Expr} {ifs : List Expr} {scope : Scope} {own : List (Str × Nat)} {pos pos' : Pos} {wi : TI} {g : TG} {tt : TT} {te : TE} {use : Option (Value → Sem Unit)} {Qf : Value → Shared → Prop}
    (hc : X.calm = true) (hN : X.N.Nodup) (I : Inv X pins σ H s) (hi : PI X tg iter wi) (ok : BlkOk X.N X.env.scope scope own)
    (hg : ∀ (s : Shared) (H : Hp) (C : Addr) (cl : List (Str × Addr)) (fp : List Addr), PG (X.blk s H scope (compEnvC scope cl C X.env) fp) tg g) (ht : ∀ (s : Shared) (H : Hp) (C : Addr) (cl : List (Str × Addr)) (fp : List Addr), PTs (X.blk s H scope (compEnvC scope cl C X.env) fp) ifs tt)
    (he : ∀ (s : Shared) (H : Hp) (C : Addr) (cl : List (Str × Addr)) (fp : List Addr), PE (X.blk s H scope (compEnvC scope cl C X.env) fp) elt te) (hs : ∀ x, foldedSetIterable iter X.env x = pure x)
    (h : tLc wi g tt te (own.map (·.2)) σ H Q)
    (hRR : ∀ D C s' m H', Inv X pins σ H' s' → Q (.ref D) H' → s'.heap.Ns C m → FpOk X pins H' C → compPost (model X.prog X.w) X.A X.xe use Qf (.ref D) C (.ok .next) s') :
    wpAny (model X.prog X.w) X.A (comprehension (.ListComp elt [⟨tg, iter, ifs, 0⟩] scope pos) scope X.env pos' (newList []) false (eval iter X.env) use) Qf X.xe s := by
  have hfree : ∀ y ∈ scope.names, y.2 = .free → ∃ c, X.env.cells.lookup y.1 = some c := fun y hy e => by
    rcases ok.free y hy e with k | k
    · exact I.ok.has _ (.inl k)
    · exact I.ok.has _ (.inr k)
  refine wpAny_comprehension_free (use := use) rfl hs (closure_ok hfree) ok.kind (fun y hy e => by rw [ok.uniq y hy, e])
    (thn (hi pins s σ H _ I h) fun xv s1 hx => thn hx fun itv s2 h2 => ?_)
  obtain ⟨it, fp, tn, J, H2, e, I2, T, st2, f2, q⟩ := h2
  subst e
  refine wpAny_newObj_type (newEnv_comp ?_) (by show 0 ≤ sizeLine; decide)
  generalize hD : s2.heap.objs.size = D
  have hDn : H2 D = none := I2.hok.fresh (Nat.le_of_eq hD)
  obtain ⟨W, ⟨m0, w0⟩, turn⟩ := q D hDn
  -- the new list
  generalize hs3 : ({ s2 with heap := s2.heap.push { cls := .type "list", data := .seq ([] : List Value).toArray } } : Shared) = s3
  have I3 : Inv X pins σ (upd H2 D (.lst [])) s3 := by
    rw [← hs3]
    refine I2.laid (t' := s2.toks) (fun b o e => Heap.get?_push_of_some _ e) (Nat.le_of_eq hD) ⟨Nat.zero_le _, [], 0, .nil, ?_⟩
    rw [← hD]
    exact Heap.get?_push_size _ rfl
  have h3 : s3.heap = s2.heap.push { cls := .type "list", data := .seq ([] : List Value).toArray } := by rw [← hs3]
  have sz : ∀ b ∈ fp, b < s2.heap.objs.size := fun b hb => by
    obtain ⟨o, e, _⟩ := T.obj _ _ st2 b hb
    exact Heap.lt_size e
  have f3 : ∀ b ∈ fp, FpOk X pins (upd H2 D (.lst [])) b ∧ b < s3.heap.objs.size := fun b hb => by
    have hlt := sz b hb
    refine ⟨⟨?_, (f2 b hb).2⟩, by rw [h3, Heap.size_push]; exact Nat.lt_succ_of_lt hlt⟩
    rw [upd_ne (by rw [← hD]; exact Nat.ne_of_lt hlt)]
    exact (f2 b hb).1
  have st3 : tn 0 s3.heap := T.keep _ _ _ st2 fun b _ o e => by rw [h3]; exact Heap.get?_push_of_some _ e
  have I4 := block_start I3 ok hN f3
  have pg := hg s3 (upd H2 D (.lst [])) s3.heap.objs.size (cellsFrom (s3.heap.objs.size + 1) scope.names (cloFrom X.env.cells scope.names [])) fp
  have pt := ht s3 (upd H2 D (.lst [])) s3.heap.objs.size (cellsFrom (s3.heap.objs.size + 1) scope.names (cloFrom X.env.cells scope.names [])) fp
  have pe := he s3 (upd H2 D (.lst [])) s3.heap.objs.size (cellsFrom (s3.heap.objs.size + 1) scope.names (cloFrom X.env.cells scope.names [])) fp
  show codeAny _ _ (.compStart (.ListComp elt [⟨tg, iter, ifs, 0⟩] scope pos) 0 (.ref it) (.ref D) (compEnvC scope (cellsFrom (s3.heap.objs.size + 1) scope.names (cloFrom X.env.cells scope.names [])) s3.heap.objs.size X.env)) (compPost (model X.prog X.w) X.A X.xe use Qf (.ref D) s3.heap.objs.size) { s3 with heap := pushCells (s3.heap.push { cls := .type "dict", data := .dict #[] }) scope.names }
  have nfp : ∀ b ∈ fp, (upd H2 D (.lst [])) b = none := fun b hb => (f3 b hb).1.1
  generalize hce : compEnvC scope (cellsFrom (s3.heap.objs.size + 1) scope.names (cloFrom X.env.cells scope.names [])) s3.heap.objs.size X.env = ce at I4 pg pt pe ⊢
  have cL : ce.locals = s3.heap.objs.size := by subst hce; rfl
  generalize hH3 : upd H2 D (.lst []) = H3 at I3 I4 pg pt pe w0 nfp f3
  generalize hs4 : ({ s3 with heap := pushCells (s3.heap.push { cls := .type "dict", data := .dict #[] }) scope.names } : Shared) = s4 at I4 ⊢
  have st4 : tn 0 s4.heap := T.keep _ _ _ st3 fun b _ o e => by rw [← hs4]; exact pushCells_keeps _ _ _ _ (Heap.get?_push_of_some _ e)
  have stat : ∀ {σ' : St} {H' : Hp} {s' : Shared}, Inv (X.blk s3 H3 scope ce fp) [] σ' H' s' → (∀ b ∈ fp, H' b = none) → ∀ b ∈ fp, FpOk (X.blk s3 H3 scope ce fp) [] H' b := fun {σ' H' s'} I' hn b hb =>
    ⟨hn b hb, (I'.ok.exf b hb).1, I'.ok.exfs b hb, .inl hb, fun x c e => (I'.ok.exf b hb).2 x c e, fun p hp => absurd (show p ∈ ([] : List (Addr × Obj)) ++ [] from hp) (by simp)⟩
  have loop : codeAny (model X.prog X.w) X.A (.compLoop (.ListComp elt [⟨tg, iter, ifs, 0⟩] scope pos) 0 (.ref it) (.ref D) ce) (compPost (model X.prog X.w) X.A X.xe use Qf (.ref D) s3.heap.objs.size) s4 := by
    refine compLoop_any (fun n s' => ∃ i H', Inv (X.blk s3 H3 scope ce fp) [] (wipe σ (own.map (·.2))) H' s' ∧ tn i s'.heap ∧ (∀ b ∈ fp, H' b = none) ∧ W i n H') ?_ m0 ⟨0, H3, I4, st4, nfp, w0⟩
    rintro n s5 ⟨i, H5, I5, st5, n5, w5⟩
    rcases turn i n H5 w5 with ⟨stop, qq⟩ | ⟨go, Nx, hNx, step⟩
    · have td := T.done (X.blk s3 H3 scope ce fp) rfl rfl rfl hc i [] s5 _ H5 (fun _ _ => False) I5 (stat I5 n5) st5 stop
      refine thnF td fun r s6 ⟨hr, I6⟩ => ?_
      subst hr
      -- back in the def's context
      have I7 : Inv X pins σ H5 s6 := I3.call' (ch := fp) I6.os I6.base I6.hok I6.bare fun b hb => ⟨(f3 b hb).1.2.2.2.1, (f3 b hb).1.2.1, (f3 b hb).1.2.2.2.2.1, (f3 b hb).1.2.2.2.2.2⟩
      have nC : H5 s3.heap.objs.size = none := by
        have z : H5 ce.locals = none := I6.free
        rw [cL] at z
        exact z
      obtain ⟨m, hn, _⟩ := I6.loc
      have hn : s6.heap.Ns ce.locals m := hn
      rw [cL] at hn
      exact hRR D s3.heap.objs.size s6 m H5 I7 qq hn (I3.fpOk (Nat.le_refl _) nC)
    · have ti := T.item (X.blk s3 H3 scope ce fp) rfl rfl rfl hc i [] s5 _ H5 (fun _ _ => False) I5 (stat I5 n5) st5 go
      refine thnF ti fun r s6 ⟨u, hr, h6⟩ => ?_
      subst hr
      refine thnF h6 fun _ s7 ⟨x, H7, I7, r7, y7, st7, n7⟩ => ?_
      have I7' := I7.pinned (stat I7 n7) (T.obj _ _ st7)
      refine thnF (pg _ s7 _ H7 x u _ I7' r7 (step x H7 y7)) fun _ s8 ⟨σ8, H8, I8, hw8, q8⟩ => ?_
      refine thnF (pt _ s8 σ8 H8 _ I8 q8) fun b s9 ⟨H9, I9, q9⟩ => ?_
      -- the turn's end
      have fin : ∀ {s' : Shared} {H' : Hp}, Inv (X.blk s3 H3 scope ce fp) ([] ++ pinsAt fp s7.heap) σ8 H' s' → Nx H' → ∃ m, m < n ∧ ∃ i H', Inv (X.blk s3 H3 scope ce fp) [] (wipe σ (own.map (·.2))) H' s' ∧ tn i s'.heap ∧ (∀ b ∈ fp, H' b = none) ∧ W i m H' := fun {s' H'} I' nx => by
        obtain ⟨m', hm, w'⟩ := hNx H' nx
        have pin' : ∀ b ∈ fp, ∀ o, s7.heap.get? b = some o → s'.heap.get? b = some o ∧ H' b = none := fun b hb o e =>
          let z := I'.pin (b, o) (List.mem_append_right _ (List.mem_append_right _ (mem_pinsAt hb e)))
          ⟨z.1, z.2.1⟩
        have hl : (wipe σ (own.map (·.2))).length = σ8.length := by rw [← hw8, wipe_length]
        refine ⟨m', hm, i + 1, H', (I'.unpinned (pins := [])).weak hl (fun j v e => ?_), T.keep _ _ _ st7 fun b hb o e => (pin' b hb o e).1, fun b hb => ?_, w'⟩
        · rw [← hw8] at e
          exact (wipe_some e).1
        · obtain ⟨o, e, _⟩ := T.obj _ _ st7 b hb
          exact (pin' b hb o e).2
      cases b with
      | false =>
        simp only [Bool.false_eq_true, if_false] at q9 ⊢
        exact fin I9 q9
      | true =>
        simp only [if_true] at q9 ⊢
        refine thnF (pe _ s9 σ8 H9 _ I9 q9) fun z s10 ⟨yv, H10, I10, r10, acc, hD10, hz10, nx⟩ => ?_
        exact app_ok (X := X.blk s3 H3 scope ce fp) I10 hD10 hz10 r10 fun s11 I11 => fin I11 nx
  exact codeAny_compStart_list loop (T.self X.A 0 _ _ _ st4 loop)
theorem pe_lc {elt tg iter : Expr} {ifs : List Expr} {scope : Scope} {own : List (Str × Nat)} {pos : Pos} {wi : TI} {g : TG} {tt : TT} {te : TE} (hc : X.calm = true) (hN : X.N.Nodup) (hi : PI X tg iter wi) (ok : BlkOk X.N X.env.scope scope own)
    (hg : ∀ (s : Shared) (H : Hp) (C : Addr) (cl : List (Str × Addr)) (fp : List Addr), PG (X.blk s H scope (compEnvC scope cl C X.env) fp) tg g) (ht : ∀ (s : Shared) (H : Hp) (C : Addr) (cl : List (Str × Addr)) (fp : List Addr), PTs (X.blk s H scope (compEnvC scope cl C X.env) fp) ifs tt)
    (he : ∀ (s : Shared) (H : Hp) (C : Addr) (cl : List (Str × Addr)) (fp : List Addr), PE (X.blk s H scope (compEnvC scope cl C X.env) fp) elt te) (hs : ∀ x, foldedSetIterable iter X.env x = pure x := by intro _; rfl) :
    PE X (.ListComp elt [⟨tg, iter, ifs, 0⟩] scope pos) (tLc wi g tt te (own.map (·.2))) := by
  intro pins s σ H Q I h
  rw [eval_ListComp]
  refine lc_core hc hN I hi ok hg ht he hs h fun D C s' m H' I' q hn f => ⟨m, hn, fun h'' sb => ?_⟩
  obtain ⟨f0, f1, f2, f3, f4, f5⟩ := f
  exact ⟨.ref D, H', I'.turned (t' := s'.toks) (fun b o hb e => (sb.2 b hb).trans e) f0 f1 f3 f4 f5, rfl, q⟩
end

end L2

namespace L2
open PySem PySem.Spec PyProof.Rows

section
variable {prog : Program} {w : World} {A : Around} {R : Result → Shared → Prop} {s : Shared} {elt t0 i0 t1 i1 : Expr} {ifs0 ifs1 : List Expr} {scope : Scope} {pos : Pos} {it acc : Value} {env : Env}
end

section
variable {X : Cx}
end
end L2

namespace L2
open PySem PySem.Spec PyProof.Rows

section
variable {κ : Type} [DecidableEq κ]
def valV (kvs : List (κ × V)) (k : κ) : Option V := (kvs.find? fun kv => decide (kv.1 = k)).map (·.2)
def dropK (kvs : List (κ × V)) (k : κ) : List (κ × V) := kvs.filter fun kv => decide (kv.1 ≠ k)

theorem valV_pos {p : κ × V} {r : List (κ × V)} {k : κ} (e : p.1 = k) : valV (p :: r) k = some p.2 := by simp [valV, List.find?_cons, e]
theorem valV_neg {p : κ × V} {r : List (κ × V)} {k : κ} (e : ¬ p.1 = k) : valV (p :: r) k = valV r k := by simp [valV, List.find?_cons, e]
theorem RelO.getD {o : Option V} {u : Option Value} {d : V} {d' : Value} (r : RelO o u) (rd : RelV d d') : RelV (o.getD d) (u.getD d') := by
  cases o with
  | none => cases u with
    | none => exact rd
    | some _ => exact (show False from r).elim
  | some _ => cases u with
    | none => exact (show False from r).elim
    | some _ => exact r

theorem KV.val {kvs : List (κ × V)} {vs : List (κ × Value)} (r : KV kvs vs) (k : κ) : RelO (valV kvs k) (valueAt vs k) := by
  unfold KV at r
  induction r with
  | nil => exact True.intro
  | @cons p q ps qs h t ih =>
    obtain ⟨h1, h2⟩ := h
    by_cases e : p.1 = k
    · have e' : q.1 = k := h1.symm.trans e
      have b : valueAt (q :: qs) k = some q.2 := by simp [valueAt, List.find?_cons, e']
      rw [valV_pos e, b]; exact h2
    · have e' : ¬ q.1 = k := fun z => e (h1.trans z)
      have b : valueAt (q :: qs) k = valueAt qs k := by simp [valueAt, List.find?_cons, e']
      rw [valV_neg e, b]; exact ih
theorem KV.any {kvs : List (κ × V)} {vs : List (κ × Value)} (r : KV kvs vs) (k : κ) : (kvs.any fun kv => decide (kv.1 = k)) = vs.any fun kv => decide (kv.1 = k) := by
  unfold KV at r
  induction r with
  | nil => rfl
  | cons h t ih => rw [List.any_cons, List.any_cons, ih, h.1]
theorem KV.drop {kvs : List (κ × V)} {vs : List (κ × Value)} (r : KV kvs vs) (k : κ) : KV (dropK kvs k) (without vs k) := by
  unfold KV at r ⊢
  unfold dropK without
  induction r with
  | nil => exact .nil
  | @cons p q ps qs h t ih =>
    obtain ⟨h1, h2⟩ := h
    rw [List.filter_cons, List.filter_cons]
    by_cases e : p.1 = k
    · have a : ¬ decide (p.1 ≠ k) = true := by simp [e]
      have b : ¬ decide (q.1 ≠ k) = true := by simp [h1.symm.trans e]
      rw [if_neg a, if_neg b]; exact ih
    · have e' : ¬ q.1 = k := fun z => e (h1.trans z)
      have a : decide (p.1 ≠ k) = true := by simp [e]
      have b : decide (q.1 ≠ k) = true := by simp [e']
      rw [if_pos a, if_pos b]; exact .cons ⟨h1, h2⟩ ih
theorem KV.length {kvs : List (κ × V)} {vs : List (κ × Value)} (r : KV kvs vs) : kvs.length = vs.length := Paired.length r
end


abbrev KT (H : Hp) : List (List Key × V) → List (List Key × Addr × Value) → Prop := Paired fun p q => p.1 = q.1 ∧ H q.2.1 = some (.tup (p.1.map kV)) ∧ RelV p.2 q.2.2
theorem KT.val {H : Hp} {kvs : List (List Key × V)} {xs : List (List Key × Addr × Value)} (r : KT H kvs xs) (k : List Key) : RelO (valV kvs k) ((atKey xs k).map (·.2)) := by
  induction r with
  | nil => exact True.intro
  | @cons p q ps qs h t ih =>
    obtain ⟨h1, _, h2⟩ := h
    by_cases e : p.1 = k
    · have e' : q.1 = k := h1.symm.trans e
      have b : atKey (q :: qs) k = some q.2 := by simp [atKey, List.find?_cons, e']
      rw [valV_pos e, b]; exact h2
    · have e' : ¬ q.1 = k := fun z => e (h1.trans z)
      have b : atKey (q :: qs) k = atKey qs k := by simp [atKey, List.find?_cons, e']
      rw [valV_neg e, b]; exact ih
theorem KT.keeps {H H' : Hp} {kvs : List (List Key × V)} {xs : List (List Key × Addr × Value)} (r : KT H kvs xs) (ht : ∀ b ys, H b = some (.tup ys) → H' b = some (.tup ys)) : KT H' kvs xs :=
  Paired.mapP r fun _ _ z => ⟨z.1, ht _ _ z.2.1, z.2.2⟩

section
variable {P : Program} {w : World} {H : Hp} {h : Heap} {a : Addr}
end

section
variable {X : Cx} {pins : List (Addr × Obj)} {σ : St} {H : Hp} {s : Shared} {a : Addr} {y v : V} {u r : Value} {o : Option V} {A : Around} {E : Value → Shared → Prop}

end

section
variable {X : Cx} {pins : List (Addr × Obj)} {σ : St} {H : Hp} {s : Shared} {a : Addr} {kvs : List (Key × V)} {k : Key} {u : Value} {A : Around} {E : Value → Shared → Prop}
end


section
variable {X : Cx} {o i e value : Expr} {pos pos' tpos : Pos} {td ty tv : TE}
end


section
variable {X : Cx} {pos : Pos}
end

section
variable {X : Cx} {pins : List (Addr × Obj)} {σ : St} {H : Hp} {s : Shared} {a : Addr} {y d : V} {u r : Value} {o : Option V} {A : Around} {E : Value → Shared → Prop}
end

section
variable {X : Cx} {o e f : Expr} {apos cpos : Pos} {td ty tx : TE}
end

section
variable {X : Cx} {pins : List (Addr × Obj)} {σ : St} {H : Hp} {s : Shared} {a : Addr} {kvs : List (Key × V)} {A : Around} {E : Value → Shared → Prop}
end


section
variable {X : Cx} {pins : List (Addr × Obj)} {σ : St} {H : Hp} {s : Shared} {a : Addr} {y : V} {u : Value} {A : Around} {E : Value → Shared → Prop}
end
end L2

namespace L2
open PySem PySem.Spec PyProof.Rows

section
variable {prog : Program} {w : World} {A : Around} {E : Value → Shared → Prop}
end

section
variable {X : Cx}
end
end L2

namespace L2
open PySem PySem.Spec PyProof.Rows

section
variable {X : Cx} {pins : List (Addr × Obj)} {σ : St} {H : Hp} {s : Shared} {h' : Heap}
end
section
variable {X : Cx}
theorem pi_one {tg : Expr} {pins : List (Addr × Obj)} {σ : St} {H : Hp} {s : Shared} {R : It → Hp → Prop} {J : It} {tn : Nat → Heap → Prop} {tk : Nat} (I : Inv X pins σ H s) (o : Obj)
    (T : Turn X.prog X.w X.K tg J [s.heap.objs.size] s.heap.objs.size tn) (st : tn 0 (s.heap.push o)) (q : R J H) : PIE X pins σ tg R (.ref s.heap.objs.size) { s with heap := s.heap.push o, toks := tk } := by
  refine ⟨s.heap.objs.size, [s.heap.objs.size], tn, J, H, rfl, I.kept fun b ob e => Heap.get?_push_of_some _ e, T, st, fun b hb => ?_, q⟩
  have e : b = s.heap.objs.size := by simpa using hb
  subst e
  exact I.fpOk (Nat.le_refl _) (I.hok.fresh (Nat.le_refl _))
end

section
variable {X : Cx} {tg : Expr}
end
section
variable {X : Cx} {tg : Expr}
end

def Its (x : Str) : It := ⟨fun i _ => i < x.cps.size, fun i H v H' => H' = H ∧ ∃ c, x.cps[i]? = some c ∧ v = .str ⟨#[c]⟩, fun i _ => x.cps.size ≤ i⟩
theorem turn_str {P : Program} {w : World} {K : PySem.W.Frag} {tg : Expr} (it : Addr) (x : Str) (t : Tok) (ty : String) (hty : ty = "str_ascii_iterator" ∨ ty = "str_iterator") :
    Turn P w K tg (Its x) [it] it (fun i h => h.IsStrIter it ty x t i) where
  mem := by simp
  obj := fun i h st b hb => by
    have e : b = it := by simpa using hb
    subst e
    obtain ⟨o, e, c, d⟩ := st
    exact ⟨o, e, fun v z => by rw [d] at z; cases z⟩
  keep := fun i h h' st k => let ⟨o, ho, r⟩ := st; ⟨o, k it (by simp) o ho, r⟩
  item := by
    intro X hP hw hK hc i pins s σ H E I hf st hg
    subst hP hw hK
    obtain ⟨f0, f1, f2, f3, f4, f5⟩ := hf it (by simp)
    have W : Walks X.prog X.w X.A it [it] [it] x.cps.size (SignAt x) (fun i h => h.IsStrIter it ty x t i) := by
      rcases hty with e | e
      · rw [e]; exact Walks.strAscii (I.ok.hd hc) it x t
      · rw [e]; exact Walks.strWide (I.ok.hd hc) it x t
    have hno : ["enumerate", "zip", "dict_itemiterator", "dict_reverseitemiterator", "odict_iterator", "itertools.zip_longest", "itertools.pairwise"].contains ty = false := by
      rcases hty with e | e
      · rw [e]; decide
      · rw [e]; decide
    refine W.item i s _ _ hg st fun v h' tk hv st' kk => ?_
    obtain ⟨c, u, hcx, rfl⟩ := hv
    have I1 : Inv X pins σ H { s with heap := h', toks := tk } := I.turned (fun b o hb e => kk b o (by simpa using hb) e) f0 f1 f3 f4 f5
    obtain ⟨oi, e, cc, dd⟩ := id st'
    exact ⟨_, rfl, go_of (s := { s with heap := h', toks := tk }) e cc dd hno ⟨.str ⟨#[c]⟩, H, I1, ⟨u, rfl⟩, ⟨rfl, c, hcx, rfl⟩, st', fun b hb => (hf b hb).1⟩⟩
  done := by
    intro X hP hw hK hc i pins s σ H E I hf st hg
    subst hP hw hK
    obtain ⟨f0, f1, f2, f3, f4, f5⟩ := hf it (by simp)
    have hx : x.cps[i]? = none := Array.getElem?_eq_none hg
    rcases hty with e | e
    · rw [e] at st
      exact wpAny_pyNext_ascii_end (I.ok.hd hc) st hx fun h' eb => ⟨rfl, I.turned (t' := s.toks) (fun b o hb e => eb b o hb e) f0 f1 f3 f4 f5⟩
    · rw [e] at st
      exact wpAny_pyNext_wide_end (I.ok.hd hc) st hx fun h' eb => ⟨rfl, I.turned (t' := s.toks) (fun b o hb e => eb b o hb e) f0 f1 f3 f4 f5⟩
  self := fun A i s Q E st h => by
    rcases hty with e | e
    · rw [e] at st; exact wpAny_pyIter_striter_ascii st h
    · rw [e] at st; exact wpAny_pyIter_striter_wide st h
def iStr (te : TE) : TI := fun σ H R => te σ H fun v H1 => ∃ x, v = .str x ∧ R (Its x) H1
theorem pi_str {X : Cx} {tg e : Expr} {te : TE} (he : PE X e te) : PI X tg e (iStr te) := by
  intro pins s σ H R I h
  refine thn (he pins s σ H _ I h) fun v s1 ⟨y, H1, I1, r1, x, ex, q⟩ => ?_
  subst ex
  obtain ⟨t, rfl⟩ := r1
  cases ha : x.cps.all (· < 128)
  · exact wpAny_pyIter_wide ha (pi_one (tk := s1.toks) I1 _ (turn_str _ x t "str_iterator" (.inr rfl)) ⟨_, Heap.get?_push_size _ rfl, rfl, rfl⟩ q)
  · exact wpAny_pyIter_ascii ha (pi_one (tk := s1.toks) I1 _ (turn_str _ x t "str_ascii_iterator" (.inl rfl)) ⟨_, Heap.get?_push_size _ rfl, rfl, rfl⟩ q)

section
variable {prog : Program} {w : World} {A : Around} {E : Value → Shared → Prop} {s : Shared}
end

section
variable {X : Cx} {pins : List (Addr × Obj)} {σ : St} {H : Hp} {s : Shared} {d : Addr} {o : Obj}
end

section
variable {P : Program} {w : World} {K : PySem.W.Frag} {tg : Expr} {d : Addr} {o : Obj} {es : Array DictEntry} {ep : Nat}
end

section
variable {X : Cx} {tg e : Expr} {td : TE} {apos cpos : Pos}
end

end L2

section 
namespace Bits
open PySem PyProof.Rows

end Bits
end 

section 
namespace TL
open PySem PySem.Builtin PySem.Builtin.Str PySem.StrLaws

abbrev tl (x : Str) : List Nat := x.cps.toList
def pre (S l : List Nat) : Bool := l.take S.length == S
def par (S : List Nat) : List Nat → List Nat → Option (List Nat × List Nat)
  | _, [] => none
  | acc, c :: r => if pre S (c :: r) = true then some (acc, (c :: r).drop S.length) else par S (acc ++ [c]) r

end TL
end 

namespace L2
open PySem PySem.Spec PyProof.Rows

section
variable {X : Cx} {pins : List (Addr × Obj)} {σ : St} {H : Hp} {s : Shared} {Q : VK}
end

section
variable {X : Cx}

end

section
variable {X : Cx} {o e : Expr} {to te : TE}
def tM1 (r : V → List V → Hp → VK → Prop) (to te : TE) : TE := fun σ H Q => to σ H fun x H1 => (∃ a, x = .str a) ∧ te σ H1 fun y H2 => r x [y] H2 Q
theorem pe_m1 {id : String} {name : Str} {apos pos : Pos} {r : V → List V → Hp → VK → Prop} (slot : Slot "str" name id) (ty : typeOf (.builtin id) = pure (.type "method_descriptor")) (rule : MtR X id r) (ho : PE X o to) (he : PE X e te)
    (hs : starEach [e] X.env = [(false, eval e X.env)] := by rfl) (hbase : attributeBase o name X.env (eval o X.env) = eval o X.env := by rfl) (hline : (apos.endLine == pos.line) = true := by rfl) :
    PE X (.Call (.Attribute o name apos) [e] [] pos) (tM1 r to te) := by
  intro pins s σ H Q I h
  refine PySem.Call_method1 hbase hs hline (thn (ho pins s σ H _ I h) fun v s1 ⟨x, H1, I1, r1, q1⟩ => ?_)
  obtain ⟨⟨a, rfl⟩, q1⟩ := q1
  obtain ⟨t, rfl⟩ := _root_.id r1
  refine ⟨"str", _, F.plainAttrs_str, slot, ty, typeIs_str _ _ _, (fun _ e => nomatch e), Calls.callWith_builtin rfl (Calls.evalArgs_plain (Calls.spliced_cons ?_))⟩
  exact thn (he pins s1 σ H1 _ I1 q1) fun u s2 ⟨y, H2, I2, r2, q2⟩ => Calls.spliced_nil (rule pins s2 σ H2 _ [y] _ [u] Q I2 r1 (.cons r2 .nil) q2)

end
end L2

namespace L2
open PySem PySem.Spec PyProof.Rows

section
variable {X : Cx}
end

theorem IsPart.raw {v : Value} {o : Option Int} (p : IsPart v o) : ∃ l : Option (Int × Tok), v = partValue l ∧ l.map (·.1) = o := by
  cases p with
  | none => exact ⟨none, rfl, rfl⟩
  | int i t => exact ⟨some (i, t), rfl, rfl⟩

def clipS (n d : Nat) : Option Int → Int
  | none => (d : Int)
  | some i => max 0 (min (if i < 0 then i + (n : Int) else i) (n : Int))
theorem clipS_eq (n d : Nat) (o : Option Int) : clipS n d o = ((HT.sIx n d o : Nat) : Int) := by
  cases o with
  | none => rfl
  | some v =>
    show max (0 : Int) (min (if v < 0 then v + (n : Int) else v) (n : Int)) = (((if v < 0 then (v + (n : Int)).toNat else min v.toNat n) : Nat) : Int)
    by_cases hv : v < 0
    · simp only [if_pos hv]
      omega
    · simp only [if_neg hv]
      omega
theorem sidx_clip (a b : Option Int) (n : Nat) : Builtin.Str.strSliceIndices a b 1 n = sliceRange (clipS n 0 a) (clipS n n b) 1 := by
  have h1 : ((1 : Int) > 0) = True := by simp
  cases a <;> cases b <;> first
    | rfl
    | (simp only [Builtin.Str.strSliceIndices, clipS, h1, if_true]; rfl)
    | simp [Builtin.Str.strSliceIndices, clipS]
theorem sidx (a b : Option Int) (n : Nat) : Builtin.Str.strSliceIndices a b 1 n = (List.range (HT.sIx n n b - HT.sIx n 0 a)).map (fun k => HT.sIx n 0 a + k) := by
  rw [sidx_clip, clipS_eq, clipS_eq]
  generalize HT.sIx n 0 a = p
  generalize HT.sIx n n b = q
  simp only [sliceRange, show ((1 : Int) > 0) = True from by simp, if_true]
  by_cases hlt : (p : Int) < q
  · have e3 : (((q : Int) - p + 1 - 1) / 1).toNat = q - p := by first | omega | (simp; done) | (simp; omega)
    simp only [hlt, if_true, e3]
    refine List.map_congr_left fun k _ => ?_
    omega
  · have : q - p = 0 := by omega
    simp [hlt, this]

def cutS (z : Str) (lo hi : Option Int) : Str :=
  ⟨((z.cps.toList.drop (HT.sIx z.length 0 lo)).take (HT.sIx z.length z.length hi - HT.sIx z.length 0 lo)).toArray⟩
theorem sliceText_cut (z : Str) (lo hi : Option Int) : PySem.StrLaws.sliceText z lo hi = cutS z lo hi := by
  have h1 : HT.sIx z.length 0 lo ≤ z.length := HT.sIx_le _ _ (Nat.zero_le _) _
  have h2 : HT.sIx z.length z.length hi ≤ z.length := HT.sIx_le _ _ (Nat.le_refl _) _
  have hp : HT.sIx z.length 0 lo ≤ max (HT.sIx z.length 0 lo) (HT.sIx z.length z.length hi) := Nat.le_max_left _ _
  have hq : max (HT.sIx z.length 0 lo) (HT.sIx z.length z.length hi) ≤ z.length := Nat.max_le.mpr ⟨h1, h2⟩
  have hd : max (HT.sIx z.length 0 lo) (HT.sIx z.length z.length hi) - HT.sIx z.length 0 lo = HT.sIx z.length z.length hi - HT.sIx z.length 0 lo := by omega
  have e : Builtin.Str.strSliceIndices lo hi 1 z.length =
      Builtin.Str.strSliceIndices (some ((HT.sIx z.length 0 lo : Nat) : Int)) (some ((max (HT.sIx z.length 0 lo) (HT.sIx z.length z.length hi) : Nat) : Int)) 1 z.length := by
    rw [PySem.StrLaws.strSliceIndices_plain hp hq, hd, sidx]
  have e2 : PySem.StrLaws.sliceText z lo hi =
      PySem.StrLaws.sliceText z (some ((HT.sIx z.length 0 lo : Nat) : Int)) (some ((max (HT.sIx z.length 0 lo) (HT.sIx z.length z.length hi) : Nat) : Int)) := by
    unfold PySem.StrLaws.sliceText
    rw [e]
  rw [e2, PySem.StrLaws.sliceText_nat z hp hq, hd]
  rfl
theorem cutS_length (z : Str) (lo hi : Option Int) : (cutS z lo hi).length ≤ z.length := by
  show (((z.cps.toList.drop (HT.sIx z.length 0 lo)).take (HT.sIx z.length z.length hi - HT.sIx z.length 0 lo)).toArray).size ≤ z.cps.size
  rw [List.size_toArray, List.length_take, List.length_drop, Array.length_toList]
  omega
def rSlS : V → Option Int → Option Int → Hp → VK → Prop := fun x lo hi H Q => ∃ z, x = .str z ∧ z.length ≤ sizeLine ∧ Q (.str (cutS z lo hi)) H
theorem sl_str {X : Cx} : SlR X rSlS := by
  intro pins s σ H x v vl vu lo hi sl Q I rx hs pl pu h
  obtain ⟨z, rfl, hz, q⟩ := h
  obtain ⟨t, rfl⟩ := rx
  obtain ⟨os, hos, hcs, hds⟩ := hs
  obtain ⟨l, rfl, rfl⟩ := IsPart.raw pl
  obtain ⟨u, rfl, rfl⟩ := IsPart.raw pu
  refine ⟨"str", _, F.slot_str_getitem.lookup, typeIs_str _ _ _, ?_⟩
  refine wpAny_getItem_str_slice (l := l) (u := u) (st := none) ⟨os, hos, hcs, hds⟩ rfl ?_
  have hl : (PySem.StrLaws.sliceText z (l.map (·.1)) (u.map (·.1))).length ≤ sizeLine := by
    rw [sliceText_cut]
    exact Nat.le_trans (cutS_length z _ _) hz
  rw [← sliceText_cut] at q
  unfold PySem.StrLaws.sliceText at q hl
  show Made.post (if ((1 : Int) == 1 && (Builtin.Str.strSliceIndices (l.map (·.1)) (u.map (·.1)) 1 z.length).length == z.length) = true then Made.val (.str z t)
    else Made.str ⟨((Builtin.Str.strSliceIndices (l.map (·.1)) (u.map (·.1)) 1 z.length).filterMap (z.cps[·]?)).toArray⟩) (EP X pins σ Q) s
  by_cases c : ((1 : Int) == 1 && (Builtin.Str.strSliceIndices (l.map (·.1)) (u.map (·.1)) 1 z.length).length == z.length) = true
  · rw [if_pos c] at q ⊢
    exact ⟨.str z, H, I, ⟨t, rfl⟩, q⟩
  · rw [if_neg c] at q hl ⊢
    exact ⟨hl, .str _, H, I.tok _, ⟨_, rfl⟩, q⟩
end L2

namespace Att
open PySem PySem.W PySem.Calls PyProof.Rows

section
variable {prog : Program} {w : World} {A : Around} {E : Value → Shared → Prop} {s : Shared} {K : Frag}

end
end Att

namespace L2
open PySem PySem.Spec PyProof.Rows

theorem vals_ints : ∀ {vs : List Value} {ns : List Int}, IntsAre vs ns → Vals (ns.map V.int) vs
  | _, _, .nil => .nil
  | _, _, .cons n t h => .cons ⟨t, rfl⟩ (vals_ints h)

def Only (H : Hp) : Prop := ∀ b, H b = none ∨ ∃ o xs, H b = some (.frz o (.lst xs))

theorem law_call {P : Program} {w : World} {K : PySem.W.Frag} {mg mb : Str → Option Value} {CX : CXT} {k : Nat} {fa a : Addr} {fd : FuncData} {x : Str} {sp : Sp} {s₁ : Shared} {vs : List Value} {ns : List Int}
    (KX : K.In s₁.heap) (hns : s₁.heap.Ns mainGlobals mg) (hb : s₁.heap.Ns builtinsNs mb) (hbb : ∀ x : Str, x ≠ "__name__" → mb x = bootBuiltins x) (hlim : s₁.heap.NoLimit) (hg : s₁.gens = #[])
    (ha : s₁.heap.get? a = some { cls := .type "list", data := .seq vs.toArray }) (hi : IntsAre vs ns) (hl : ns.length ≤ sizeLine) (hr : Room k callerA)
    (F : ∀ base : Heap, K.In base → base.Ns mainGlobals mg → FnOk P w K mg base CX k fa fd [x] sp) (hbind : ∀ (s : Shared) (u : Value), BindsTo s fd ⟨[u], []⟩ [(x, u)])
    (hsp : ∀ H : Hp, Only H → SqL K H a (ns.map V.int) → sp [.ref a] H (fun v _ => v = .bl true) fun _ _ _ => False)
    (hCX : ∀ H e s', CX [] H s₁ (fun _ _ _ => False) e s' → False) :
    codeAny (model P w) callerA (.call (.ref fa) ⟨[.ref a], []⟩) (fun r s' => r = .ok (.ret (.bool true)) ∧ OldK s₁.heap s'.heap ∧ s'.os = s₁.os ∧ AllBare s'.gens) s₁ := by
  have rv := vals_ints hi
  have lenV := hi.length
  -- from an abstract heap in which nothing but the script may be tracked
  have core : ∀ H : Hp, Only H → SqL K H a (ns.map V.int) → HOk P w H s₁.heap → (∀ b, H b ≠ none → b = a) → (H a ≠ none → K.lookup a = none) →
      codeAny (model P w) callerA (.call (.ref fa) ⟨[.ref a], []⟩) (fun r s' => r = .ok (.ret (.bool true)) ∧ OldK s₁.heap s'.heap ∧ s'.os = s₁.os ∧ AllBare s'.gens) s₁ := by
    intro H hO hS hok hA hK
    have base_of : ∀ {b : Addr} {o : Obj}, s₁.heap.get? b = some o → H b = none → (hidT s₁.heap H).get? b = some o := fun e n => hidT_get e n
    have noA : ∀ {b : Addr} {o : Obj} {es : Array DictEntry} {ep : Nat}, s₁.heap.get? b = some o → o.data = .dict es ep → H b = none := fun {b o es ep} e d => by
      cases q : H b with
      | none => rfl
      | some u =>
        have e' : b = a := hA b (by rw [q]; simp)
        subst e'
        rw [ha] at e; cases e
        have d' : Data.seq vs.toArray _ = Data.dict es ep := d
        cases d'
    have nsK : ∀ {b : Addr} {m : Str → Option Value}, s₁.heap.Ns b m → (hidT s₁.heap H).Ns b m := fun {b m} ⟨o, es, ep, e, d, r⟩ => ⟨o, es, ep, base_of e (noA e d), d, r⟩
    have hKb : K.In (hidT s₁.heap H) := fun b o e => base_of (KX b o e) (by
      cases q : H b with
      | none => rfl
      | some u =>
        have e' : b = a := hA b (by rw [q]; simp)
        subst e'
        rw [hK (by rw [q]; simp)] at e; cases e)
    have hM : Mod K mg (hidT s₁.heap H) := ⟨hKb, nsK hns, ⟨mb, nsK hb, hbb⟩, let ⟨mc, h1, h2⟩ := hlim; ⟨mc, nsK h1, h2⟩⟩
    have e0 : Env0 P w K mg (hidT s₁.heap H) callerA [] s₁ H := ⟨rfl, hM, fun b o e => of_hidT e, Nat.le_of_eq (hidT_size _ _), trivial, fun b hb => absurd (show b ∈ ([] : List Addr) from hb) (by simp), hok, .of_eq hg⟩
    refine codeAny_mono ((F _ hKb (nsK hns)).run callerA [] s₁ H ⟨[.ref a], []⟩ [.ref a] [.ref a] _ _ hr e0 (hbind s₁ (.ref a)) (.cons rfl .nil) (hsp H hO hS)) fun r s' h => ?_
    cases r with
    | error e => exact (hCX H e s' h).elim
    | ok fl =>
      cases fl with
      | next => exact False.elim h
      | brk => exact False.elim h
      | cont => exact False.elim h
      | ret u =>
        obtain ⟨v, H', os, bare, un, hok', r', q⟩ := h
        have q' : v = .bl true := q
        subst q'
        obtain rfl : u = Value.bool true := r'
        refine ⟨rfl, OldK.of_keep fun b o e => ?_, os, bare⟩
        cases q : H b with
        | none => exact un.keep b o e q (by intro z; exact absurd (show b ∈ ([] : List Addr) from z) (by simp)) (by simp)
        | some u =>
          rcases hO b with z | ⟨ob, xs, z⟩
          · rw [q] at z; cases z
          · have z2 := un.frzs b ob _ z
            obtain ⟨e1, _⟩ := hok b _ z
            obtain ⟨e2, _⟩ := hok' b _ z2
            rw [e] at e1; cases e1
            exact e2
  cases hk : K.lookup a with
  | some o =>
    -- the script is one of the module's own objects
    have e := KX a o hk
    rw [ha] at e
    cases e
    refine core (fun _ => none) (fun _ => .inl rfl) (.inr ⟨_, vs.toArray, _, hk, rfl, rfl, rfl, by rw [List.size_toArray, lenV]; exact hl, by simpa using rv⟩) (fun b u z => by have z' : (none : Option HO) = some u := z; cases z') (fun b z => absurd rfl z) fun z => absurd rfl z
  | none =>
    refine core (fun b => if b = a then some (.frz { cls := .type "list", data := .seq vs.toArray } (.lst (ns.map V.int))) else none) (fun b => ?_) (.inl (.inr ⟨{ cls := .type "list", data := .seq vs.toArray }, if_pos rfl⟩)) (fun b u z => ?_) (fun b z => ?_) fun _ => hk
    · by_cases hb : b = a
      · exact .inr ⟨_, _, if_pos hb⟩
      · exact .inl (if_neg hb)
    · by_cases hb : b = a
      · have z' := (if_pos hb).symm.trans z
        cases z'
        subst hb
        exact ⟨ha, by rw [List.length_map]; exact hl, vs, _, rv, ha⟩
      · have z' := (if_neg hb).symm.trans z
        cases z'
    · by_cases hb : b = a
      · exact hb
      · exact absurd (if_neg hb) z
end L2

namespace L2
open PySem PySem.Spec PyProof.Rows

end L2


namespace L2
open PySem PySem.Spec PyProof.Rows

def defArgs (s : Stmt) : Arguments := match s with
  | .FunctionDef _ a _ _ _ _ _ _ _ _ => a
  | _ => { posonlyargs := [], args := [], vararg := none, kwonlyargs := [], kw_defaults := [], kwarg := none, defaults := [] }
def defBody (s : Stmt) : List Stmt := match s with
  | .FunctionDef _ _ b _ _ _ _ _ _ _ => b
  | _ => []
def defScope (s : Stmt) : Scope := match s with
  | .FunctionDef _ _ _ _ _ _ sc _ _ _ => sc
  | _ => { kind := .function, names := [], isGenerator := false, isCoroutine := false }

abbrev CX0 : CXT := fun _ _ _ _ _ _ => False
abbrev E0 : XK := fun _ _ _ => False
theorem pass0 {X : Cx} : Passes CX0 X E0 := fun _ _ _ _ _ _ _ h => h.elim

structure Fun (K : PySem.W.Frag) (x qual : Str) (st : Stmt) (f : Addr) (fd : FuncData) : Prop where
  ex : ∃ (oc : Value) (od : Option Addr) (kV doc pm : Value) (an : Option Addr) (cdv ct : Value) (osl : Array (Option Value)),
    fd = PySem.W.fnOf x qual (defArgs st) (defBody st) (defScope st) .none kV doc pm an cdv ct ∧ K.lookup f = some ⟨oc, od, .func fd, osl⟩ ∧ PySem.W.codeIn K cdv qual = true
  kp : PySem.W.keepIn K (.ref f) = true
section
variable {P : Program} {w : World} {K : PySem.W.Frag} {mg : Str → Option Value} {base : Heap}
theorem Fun.ok {x qual : Str} {st : Stmt} {f : Addr} {fd : FuncData} {N ps : List Str} {k : Nat} {sp : Sp} (F : Fun K x qual st f fd) (S : FnScope N ps (defScope st)) (len : ∀ vs H Q E, sp vs H Q E → vs.length = ps.length)
    (hbody : ∀ (cdv : Value) (A : Around) (outer : List Env) (s : Shared) (H : Hp) (vs : List V) (Q : VK) (E : XK), Room k (A.deeper (envOfC qual (defScope st) s.heap.objs.size f cdv)) → sp vs H Q E →
      ∃ t, PSs (cxOf CX0 P w K mg base N qual (defScope st) f cdv A outer s H E).nox (defBody st) t ∧ t { nx := fun _ H' => Q .non H', rt := Q } (start N vs) H) : FnOk P w K mg base CX0 (k + 1) f fd ps sp := by
  obtain ⟨oc, od, kV, doc, pm, an, cdv, ct, osl, rfl, lk, hcd⟩ := F.ex
  refine fn_of lk hcd S len fun A outer s H vs Q E hr hsp => ?_
  obtain ⟨t, h, q⟩ := hbody cdv A outer s H vs Q E hr hsp
  exact ⟨t, h.nox, q⟩
theorem Fun.binds {x qual : Str} {st : Stmt} {f : Addr} {fd : FuncData} {ps : List Str} (F : Fun K x qual st f fd)
    (h : ∀ (kV doc pm : Value) (an : Option Addr) (cdv ct : Value) (us : List Value), us.length = ps.length → bindArgs (PySem.W.fnOf x qual (defArgs st) (defBody st) (defScope st) .none kV doc pm an cdv ct) ⟨us, []⟩ = pure (ps.zip us)) : Binds K fd ps [] := by
  obtain ⟨oc, od, kV, doc, pm, an, cdv, ct, osl, rfl, lk, hcd⟩ := F.ex
  exact .all (h kV doc pm an cdv ct)
theorem fun_mk {x qual : Str} {st : Stmt} {f : Addr} {oc : Value} {od an : Option Addr} {osl : Array (Option Value)} {kV doc pm cdv ct : Value} (l : K.lookup f = some ⟨oc, od, .func (PySem.W.fnOf x qual (defArgs st) (defBody st) (defScope st) .none kV doc pm an cdv ct), osl⟩)
    (c : PySem.W.codeIn K cdv qual = true) (k : PySem.W.keepIn K (.ref f) = true) : Fun K x qual st f (PySem.W.fnOf x qual (defArgs st) (defBody st) (defScope st) .none kV doc pm an cdv ct) := ⟨⟨oc, od, kV, doc, pm, an, cdv, ct, osl, rfl, l, c⟩, k⟩
end
section
variable {X : Cx}
theorem pv (i : Nat) {x : Str} {pos : Pos} (hN : X.N[i]? = some x := by rfl) (hv : Vis X.env.scope x := by first | exact Or.inl rfl | exact Or.inr (Or.inl rfl) | exact Or.inr (Or.inr rfl)) (hd : (x == ("__debug__" : Str)) = false := by decide)
    (hcd : (x == ("__classdict__" : Str)) = false := by decide) : PE X (.Name x pos) (tVar i) := pe_var hN hv hd hcd
end

theorem iteF {A B : Prop} (h : B) : if false = true then A else B := by
  rw [if_neg Bool.false_ne_true]
  exact h
theorem iteT {A B : Prop} (h : A) : if true = true then A else B := by
  rw [if_pos rfl]
  exact h
def Same (H H' : Hp) : Prop := ∀ b o, H b = some o → H' b = some o
theorem Same.refl (H : Hp) : Same H H := fun _ _ h => h
theorem Same.trans {H H1 H2 : Hp} (a : Same H H1) (b : Same H1 H2) : Same H H2 := fun c o h => b c o (a c o h)
theorem Same.free {H H' : Hp} (e : Same H H') {l : Addr} (h : H' l = Option.none) : H l = Option.none := by
  cases q : H l with
  | none => rfl
  | some o =>
    rw [e l o q] at h
    cases h
theorem Same.seq {K : PySem.W.Frag} {H H' : Hp} {a : Addr} {xs : List V} (e : Same H H') (h : SqL K H a xs) : SqL K H' a xs := by
  rcases h with (h | ⟨o, h⟩) | h
  · exact .inl (.inl (e _ _ h))
  · exact .inl (.inr ⟨o, e _ _ h⟩)
  · exact .inr h

section
variable {κ : Type} [DecidableEq κ]
end
end L2

end
section
set_option Elab.async false
set_option linter.all false
set_option maxRecDepth 100000
set_option maxHeartbeats 2000000
namespace L2
open PySem PySem.Spec PyProof.Rows
open PySem.W (WData Codec OpenSpec Well WellAll ReadsW ReadsAllW)
mutual
/-- x stands for the datum d, lists and tuples all the way -/
inductive Dw (K : PySem.W.Frag) (H : Hp) : V → WData → Prop
  | non : Dw K H .non .none
  | bl (b : Bool) : Dw K H (.bl b) (.bool b)
  | int (i : Int) : Dw K H (.int i) (.int i)
  | str (x : Str) : Dw K H (.str x) (.str x)
  | byt (b : Array UInt8) : Dw K H (.byt b) (.bytes b.toList)
  | lst {a : Addr} {xs : List V} {ds : List WData} : SqL K H a xs → DwAll K H xs ds → Dw K H (.ref a) (.list ds)
  | tup {a : Addr} {xs : List V} {ds : List WData} : SqT K H a xs → DwAll K H xs ds → Dw K H (.ref a) (.tuple ds)
inductive DwAll (K : PySem.W.Frag) (H : Hp) : List V → List WData → Prop
  | nil : DwAll K H [] []
  | cons {v : V} {vs : List V} {d : WData} {ds : List WData} : Dw K H v d → DwAll K H vs ds → DwAll K H (v :: vs) (d :: ds)
end
section
variable {P : Program} {w : World} {K : PySem.W.Frag} {H : Hp} {h : Heap} {R : PySem.W.WRecords} {cl : Str → Option Addr}
theorem sqL_at {a : Addr} {xs : List V} (hok : HOk P w H h) (KX : K.In h) (q : SqL K H a xs) : ∃ (its : List Value) (o : Obj) (n : Nat), Vals xs its ∧ h.get? a = some o ∧ o.cls = .type "list" ∧ o.data = .seq its.toArray n := by
  rcases q with q | ⟨o, its, n, e, hc, _, hd, _, hv⟩
  · obtain ⟨_, its, n, hv, e⟩ := (show ObjOk P w H h a (.lst xs) from q.ok hok)
    exact ⟨its, _, n, hv, e, rfl, rfl⟩
  · exact ⟨its.toList, o, n, hv, KX _ _ e, hc, by simp [hd]⟩
theorem sqT_at {a : Addr} {xs : List V} (hok : HOk P w H h) (KX : K.In h) (q : SqT K H a xs) : ∃ (its : List Value) (o : Obj) (n : Nat), Vals xs its ∧ h.get? a = some o ∧ o.cls = .type "tuple" ∧ o.data = .seq its.toArray n := by
  rcases q with q | ⟨o, its, n, e, hc, hd, _, hv⟩
  · obtain ⟨_, its, hv, o, e, hc, n, hd⟩ := (show ObjOk P w H h a (.tup xs) from q.ok hok)
    exact ⟨its, o, n, hv, e, hc, hd⟩
  · exact ⟨its.toList, o, n, hv, KX _ _ e, hc, by simp [hd]⟩
mutual
theorem Dw.reads (hok : HOk P w H h) (KX : K.In h) : ∀ (d : WData) (v : V) (u : Value), Dw K H v d → RelV v u → ∃ as, ReadsW R cl h u d as
  | .none, _, _, x, r => by
    cases x
    cases r
    exact ⟨_, ReadsW.none⟩
  | .bool b, _, _, x, r => by
    cases x
    cases r
    exact ⟨_, ReadsW.bool b⟩
  | .int i, _, _, x, r => by
    cases x
    obtain ⟨t, rfl⟩ := r
    exact ⟨_, ReadsW.int i t⟩
  | .str s, _, _, x, r => by
    cases x
    obtain ⟨t, rfl⟩ := r
    exact ⟨_, ReadsW.str s t⟩
  | .bytes b, _, _, x, r => by
    cases x
    obtain ⟨t, rfl⟩ := r
    exact ⟨_, ReadsW.bytes _ t⟩
  | .list ds, _, _, x, r => by
    cases x with
    | lst hs ha =>
      cases r
      obtain ⟨its, o, n, rv, ho, hc, hd⟩ := sqL_at hok KX hs
      obtain ⟨as, hr⟩ := Dw.readsAll hok KX ds _ its ha rv
      exact ⟨_, ReadsW.list ho hc hd hr⟩
  | .tuple ds, _, _, x, r => by
    cases x with
    | tup hs ha =>
      cases r
      obtain ⟨its, o, n, rv, ho, hc, hd⟩ := sqT_at hok KX hs
      obtain ⟨as, hr⟩ := Dw.readsAll hok KX ds _ its ha rv
      exact ⟨_, ReadsW.tuple ho hc hd hr⟩
  | .float _, _, _, x, _ => by cases x
  | .dict _, _, _, x, _ => by cases x
  | .bytearray _, _, _, x, _ => by cases x
  | .set _, _, _, x, _ => by cases x
  | .frozenset _, _, _, x, _ => by cases x
  | .obj _ _, _, _, x, _ => by cases x
theorem Dw.readsAll (hok : HOk P w H h) (KX : K.In h) : ∀ (ds : List WData) (vs : List V) (us : List Value), DwAll K H vs ds → Vals vs us → ∃ as, ReadsAllW R cl h us ds as
  | [], _, _, x, r => by
    cases x
    cases r
    exact ⟨_, ReadsAllW.nil⟩
  | d :: ds, _, _, x, r => by
    cases x with
    | cons h1 h2 =>
      cases r with
      | cons r1 r2 =>
        obtain ⟨as, q1⟩ := Dw.reads hok KX d _ _ h1 r1
        obtain ⟨bs, q2⟩ := Dw.readsAll hok KX ds _ _ h2 r2
        exact ⟨_, ReadsAllW.cons q1 q2⟩
end
end
mutual
/-- data that a codec tells -/
def plW : WData → Bool
  | .none => true
  | .bool _ => true
  | .int _ => true
  | .str _ => true
  | .bytes _ => true
  | .list xs => plWs xs
  | .tuple xs => plWs xs
  | _ => false
def plWs : List WData → Bool
  | [] => true
  | x :: r => plW x && plWs r
end
theorem plWs_map {α : Type} {f : α → WData} (h : ∀ a, plW (f a) = true) : ∀ l : List α, plWs (l.map f) = true
  | [] => rfl
  | x :: r => by
    show (plW (f x) && plWs (r.map f)) = true
    rw [h x, plWs_map h r] <;> rfl
theorem pl_enc : ∀ (c : Codec) (a : c.denote), plW (c.enc a) = true
  | .unit, _ => rfl
  | .bool, _ => rfl
  | .int _ _, _ => rfl
  | .nat _ _, _ => rfl
  | .u8, _ => rfl
  | .bytes _ _, _ => rfl
  | .text _ _ _ _, _ => rfl
  | .list _ _ c, a => plWs_map (fun x => pl_enc c x) a
  | .pair c d, a => by
    show (plW (c.enc a.1) && (plW (d.enc a.2) && true)) = true
    rw [pl_enc c a.1, pl_enc d a.2] <;> rfl
  | .triple c d e, a => by
    show (plW (c.enc a.1) && (plW (d.enc a.2.1) && (plW (e.enc a.2.2) && true))) = true
    rw [pl_enc c a.1, pl_enc d a.2.1, pl_enc e a.2.2] <;> rfl
  | .option c, none => rfl
  | .option c, some x => pl_enc c x
theorem pl_encAll : ∀ (cs : List Codec) (a : Codec.denoteAll cs), plWs (Codec.encAll cs a) = true
  | [], _ => rfl
  | c :: cs, a => by
    show (plW (c.enc a.1) && plWs (Codec.encAll cs a.2)) = true
    rw [pl_enc c a.1, pl_encAll cs a.2] <;> rfl
theorem weight_mem : ∀ {xs : List WData} {d : WData}, d ∈ xs → d.weight ≤ WData.weightAll xs
  | [], d, h => absurd h (by simp)
  | x :: r, d, h => by
    show d.weight ≤ x.weight + 1 + WData.weightAll r
    rcases List.mem_cons.mp h with e | m
    · rw [e]
      omega
    · have z := weight_mem m
      omega
def toV : Value → V
  | .none => .non
  | .bool b => .bl b
  | .int i _ => .int i
  | .str x _ => .str x
  | .bytes b _ => .byt b
  | .ref a => .ref a
  | _ => .non
def OkU (A : List Addr) : Value → Prop
  | .none => True
  | .bool _ => True
  | .int _ _ => True
  | .str _ _ => True
  | .bytes _ _ => True
  | .ref a => a ∈ A
  | _ => False
theorem OkU.mono {A B : List Addr} (h : ∀ a ∈ A, a ∈ B) : ∀ {u : Value}, OkU A u → OkU B u := fun {u} x => by
  cases u with
  | ref a => exact h a x
  | none => trivial
  | bool b => trivial
  | int i t => trivial
  | str s t => trivial
  | bytes b t => trivial
  | _ => exact False.elim x
theorem relV_toV {A : List Addr} {u : Value} (x : OkU A u) : RelV (toV u) u := by
  cases u with
  | ref a => rfl
  | none => rfl
  | bool b => rfl
  | int i t => exact ⟨t, rfl⟩
  | str s t => exact ⟨t, rfl⟩
  | bytes b t => exact ⟨t, rfl⟩
  | _ => exact False.elim x
theorem vals_toV {A : List Addr} : ∀ {vs : List Value}, (∀ u ∈ vs, OkU A u) → Vals (vs.map toV) vs
  | [], _ => .nil
  | u :: r, h => .cons (relV_toV (h u (List.mem_cons_self ..))) (vals_toV fun x hx => h x (List.mem_cons_of_mem _ hx))
def ArgOb (h : Heap) (A : List Addr) (a : Addr) : Prop := ∃ vs : List Value, vs.length ≤ sizeLine ∧ (∀ u ∈ vs, OkU A u) ∧
  (h.get? a = some { cls := .type "list", data := .seq vs.toArray } ∨ h.get? a = some { cls := .type "tuple", data := .seq vs.toArray })
theorem ArgOb.mono {h : Heap} {A B : List Addr} {a : Addr} (k : ∀ a ∈ A, a ∈ B) (x : ArgOb h A a) : ArgOb h B a := by
  obtain ⟨vs, h1, h2, h3⟩ := x
  exact ⟨vs, h1, fun u hu => (h2 u hu).mono k, h3⟩
theorem wellAll_len {P : Params} {h : Heap} : ∀ {vs : List Value} {ds : List WData}, WellAll P h vs ds → vs.length = ds.length
  | _, _, .nil => rfl
  | _, _, .cons _ b => by
    show _ + 1 = _ + 1
    rw [wellAll_len b]
theorem well_list {P : Params} {h : Heap} {v : Value} {ds : List WData} (x : Well P h v (.list ds)) : ∃ (a : Addr) (vs : List Value), v = .ref a ∧ h.get? a = some { cls := .type "list", data := .seq vs.toArray } ∧ WellAll P h vs ds := by
  cases x with
  | list ho hall => exact ⟨_, _, rfl, ho, hall⟩
theorem well_tuple {P : Params} {h : Heap} {v : Value} {ds : List WData} (x : Well P h v (.tuple ds)) : ∃ (a : Addr) (vs : List Value), v = .ref a ∧ h.get? a = some { cls := .type "tuple", data := .seq vs.toArray } ∧ WellAll P h vs ds := by
  cases x with
  | tuple ho hall => exact ⟨_, _, rfl, ho, hall⟩
theorem well_cons {P : Params} {h : Heap} {us : List Value} {d : WData} {ds : List WData} (x : WellAll P h us (d :: ds)) : ∃ (v : Value) (vs : List Value), us = v :: vs ∧ Well P h v d ∧ WellAll P h vs ds := by
  cases x with
  | cons a b => exact ⟨_, _, rfl, a, b⟩
theorem line_of {n : Nat} (h : n ≤ 1048576) : n ≤ sizeLine := Nat.le_trans h (by decide)
section
variable {P : Params} {h : Heap}
mutual
theorem area_one : ∀ (d : WData) (v : Value), Well P h v d → plW d = true → d.weight ≤ 1048576 → ∃ A : List Addr, OkU A v ∧ ∀ a ∈ A, ArgOb h A a
  | .none, _, x, _, _ => by
    cases x
    exact ⟨[], trivial, fun a m => absurd m (by simp)⟩
  | .bool b, _, x, _, _ => by
    cases x
    exact ⟨[], trivial, fun a m => absurd m (by simp)⟩
  | .int i, _, x, _, _ => by
    cases x
    exact ⟨[], trivial, fun a m => absurd m (by simp)⟩
  | .str s, _, x, _, _ => by
    cases x
    exact ⟨[], trivial, fun a m => absurd m (by simp)⟩
  | .bytes b, _, x, _, _ => by
    cases x
    exact ⟨[], trivial, fun a m => absurd m (by simp)⟩
  | .list ds, _, x, p, z => by
    obtain ⟨a, vs, rfl, ho, hall⟩ := well_list x
    have z2 : WData.weightAll ds ≤ 1048576 := z
    obtain ⟨A, h1, h2⟩ := area_all ds _ hall p fun d hd => Nat.le_trans (weight_mem hd) z2
    have k : ∀ b ∈ A, b ∈ a :: A := fun b hb => List.mem_cons_of_mem _ hb
    refine ⟨a :: A, List.mem_cons_self .., fun b hb => ?_⟩
    rcases List.mem_cons.mp hb with e | m
    · rw [e]
      exact ⟨vs, line_of (by rw [wellAll_len hall]; exact Nat.le_trans (PySem.W.length_le_weightAllW ds) z2), fun u hu => (h1 u hu).mono k, .inl ho⟩
    · exact (h2 b m).mono k
  | .tuple ds, _, x, p, z => by
    obtain ⟨a, vs, rfl, ho, hall⟩ := well_tuple x
    have z2 : WData.weightAll ds ≤ 1048576 := z
    obtain ⟨A, h1, h2⟩ := area_all ds _ hall p fun d hd => Nat.le_trans (weight_mem hd) z2
    have k : ∀ b ∈ A, b ∈ a :: A := fun b hb => List.mem_cons_of_mem _ hb
    refine ⟨a :: A, List.mem_cons_self .., fun b hb => ?_⟩
    rcases List.mem_cons.mp hb with e | m
    · rw [e]
      exact ⟨vs, line_of (by rw [wellAll_len hall]; exact Nat.le_trans (PySem.W.length_le_weightAllW ds) z2), fun u hu => (h1 u hu).mono k, .inr ho⟩
    · exact (h2 b m).mono k
  | .float _, _, _, p, _ => Bool.noConfusion (show false = true from p)
  | .dict _, _, _, p, _ => Bool.noConfusion (show false = true from p)
  | .bytearray _, _, _, p, _ => Bool.noConfusion (show false = true from p)
  | .set _, _, _, p, _ => Bool.noConfusion (show false = true from p)
  | .frozenset _, _, _, p, _ => Bool.noConfusion (show false = true from p)
  | .obj _ _, _, _, p, _ => Bool.noConfusion (show false = true from p)
theorem area_all : ∀ (ds : List WData) (vs : List Value), WellAll P h vs ds → plWs ds = true → (∀ d ∈ ds, d.weight ≤ 1048576) → ∃ A : List Addr, (∀ u ∈ vs, OkU A u) ∧ ∀ a ∈ A, ArgOb h A a
  | [], _, x, _, _ => by
    cases x
    exact ⟨[], fun u m => absurd m (by simp), fun a m => absurd m (by simp)⟩
  | d :: ds, _, x, p, z => by
    obtain ⟨v, vs, rfl, x1, x2⟩ := well_cons x
    have q : plW d = true ∧ plWs ds = true := Bool.and_eq_true_iff.mp p
    obtain ⟨A, a1, a2⟩ := area_one d v x1 q.1 (z d (List.mem_cons_self ..))
    obtain ⟨B, b1, b2⟩ := area_all ds vs x2 q.2 fun e he => z e (List.mem_cons_of_mem _ he)
    have kA : ∀ b ∈ A, b ∈ A ++ B := fun b hb => List.mem_append.mpr (.inl hb)
    have kB : ∀ b ∈ B, b ∈ A ++ B := fun b hb => List.mem_append.mpr (.inr hb)
    refine ⟨A ++ B, fun u hu => ?_, fun b hb => ?_⟩
    · rcases List.mem_cons.mp hu with e | m
      · rw [e]
        exact a1.mono kA
      · exact (b1 u m).mono kB
    · rcases List.mem_append.mp hb with m | m
      · exact (a2 b m).mono kA
      · exact (b2 b m).mono kB
end
end
def hoOf (o : Obj) : Option HO := match o.data with
  | .seq vs _ => if (o.cls == Value.type "list") = true then some (.frz o (.lst (vs.toList.map toV))) else some (.frz o (.tup (vs.toList.map toV)))
  | _ => none
def argH (K : PySem.W.Frag) (h : Heap) (A : List Addr) : Hp := fun b => if b ∈ A then (if (K.lookup b).isNone = true then (h.get? b).bind hoOf else none) else none
def OnlyF (H : Hp) : Prop := ∀ b, H b = none ∨ ∃ o u, H b = some (.frz o u)
theorem hoOf_lst (vs : List Value) : hoOf { cls := .type "list", data := .seq vs.toArray } = some (.frz { cls := .type "list", data := .seq vs.toArray } (.lst (vs.map toV))) := by
  show (if (Value.type "list" == Value.type "list") = true then some (HO.frz { cls := .type "list", data := .seq vs.toArray } (.lst (vs.toArray.toList.map toV))) else some (HO.frz { cls := .type "list", data := .seq vs.toArray } (.tup (vs.toArray.toList.map toV)))) = _
  rw [if_pos (beq_self_eq_true _)]
theorem hoOf_tup (vs : List Value) : hoOf { cls := .type "tuple", data := .seq vs.toArray } = some (.frz { cls := .type "tuple", data := .seq vs.toArray } (.tup (vs.map toV))) := by
  show (if (Value.type "tuple" == Value.type "list") = true then some (HO.frz { cls := .type "tuple", data := .seq vs.toArray } (.lst (vs.toArray.toList.map toV))) else some (HO.frz { cls := .type "tuple", data := .seq vs.toArray } (.tup (vs.toArray.toList.map toV)))) = _
  rw [if_neg (by decide)]
section
variable {P : Program} {w : World} {K : PySem.W.Frag} {h : Heap} {A : List Addr}
theorem argH_at {b : Addr} {o : Obj} (hb : b ∈ A) (hk : K.lookup b = none) (e : h.get? b = some o) : argH K h A b = hoOf o := by
  unfold argH
  rw [if_pos hb, hk, if_pos (show (none : Option Obj).isNone = true from rfl), e] <;> rfl
theorem of_argH {b : Addr} {u : HO} (q : argH K h A b = some u) : b ∈ A ∧ K.lookup b = none := by
  unfold argH at q
  by_cases hb : b ∈ A
  · rw [if_pos hb] at q
    cases hk : K.lookup b with
    | none => exact ⟨hb, rfl⟩
    | some o =>
      rw [hk, if_neg (by simp)] at q
      cases q
  · rw [if_neg hb] at q
    cases q
theorem argH_is (ar : ∀ a ∈ A, ArgOb h A a) {b : Addr} {u : HO} (q : argH K h A b = some u) : K.lookup b = none ∧ ∃ vs : List Value, vs.length ≤ sizeLine ∧ (∀ u ∈ vs, OkU A u) ∧
    ((h.get? b = some { cls := .type "list", data := .seq vs.toArray } ∧ u = .frz { cls := .type "list", data := .seq vs.toArray } (.lst (vs.map toV))) ∨
     (h.get? b = some { cls := .type "tuple", data := .seq vs.toArray } ∧ u = .frz { cls := .type "tuple", data := .seq vs.toArray } (.tup (vs.map toV)))) := by
  obtain ⟨hb, hk⟩ := of_argH q
  obtain ⟨vs, h1, h2, h3⟩ := ar b hb
  refine ⟨hk, vs, h1, h2, ?_⟩
  rcases h3 with e | e
  · rw [argH_at hb hk e, hoOf_lst] at q
    exact .inl ⟨e, (Option.some.inj q).symm⟩
  · rw [argH_at hb hk e, hoOf_tup] at q
    exact .inr ⟨e, (Option.some.inj q).symm⟩
theorem argH_only (ar : ∀ a ∈ A, ArgOb h A a) : OnlyF (argH K h A) := fun b => by
  cases q : argH K h A b with
  | none => exact .inl rfl
  | some u =>
    obtain ⟨_, vs, _, _, ⟨_, e⟩ | ⟨_, e⟩⟩ := argH_is ar q
    · exact .inr ⟨_, _, by rw [e]⟩
    · exact .inr ⟨_, _, by rw [e]⟩
theorem argH_ok (ar : ∀ a ∈ A, ArgOb h A a) : HOk P w (argH K h A) h := fun b u q => by
  obtain ⟨_, vs, h1, h2, ⟨e, rfl⟩ | ⟨e, rfl⟩⟩ := argH_is ar q
  · exact ⟨e, by rw [List.length_map]; exact h1, vs, _, vals_toV h2, e⟩
  · exact ⟨e, by rw [List.length_map]; exact h1, vs, vals_toV h2, _, e, rfl, _, rfl⟩
theorem seq_inj {c c' : Value} {vs us : List Value} (e : (some { cls := c, data := .seq vs.toArray } : Option Obj) = some { cls := c', data := .seq us.toArray }) : c = c' ∧ vs = us := by
  have e1 := Option.some.inj e
  have e2 : c = c' := congrArg Obj.cls e1
  have e3 : Data.seq vs.toArray = Data.seq us.toArray := congrArg Obj.data e1
  injection e3 with e4
  refine ⟨e2, ?_⟩
  have e5 := congrArg Array.toList e4
  simpa using e5
theorem argL (KX : K.In h) (ar : ∀ a ∈ A, ArgOb h A a) {a : Addr} {vs : List Value} (ha : a ∈ A) (e : h.get? a = some { cls := .type "list", data := .seq vs.toArray }) : (∀ u ∈ vs, OkU A u) ∧ SqL K (argH K h A) a (vs.map toV) := by
  obtain ⟨us, h1, h2, h3⟩ := ar a ha
  have hu : us = vs := by
    rcases h3 with q | q
    · rw [e] at q
      exact (seq_inj q).2.symm
    · rw [e] at q
      exact absurd (Value.type.inj (seq_inj q).1) (by decide)
  subst hu
  refine ⟨h2, ?_⟩
  cases hk : K.lookup a with
  | none => exact .inl (.inr ⟨_, by rw [argH_at ha hk e, hoOf_lst]⟩)
  | some o =>
    have e2 := KX a o hk
    rw [e] at e2
    obtain rfl := Option.some.inj e2
    exact .inr ⟨_, us.toArray, _, hk, rfl, rfl, rfl, by rw [List.size_toArray]; exact h1, by simpa using vals_toV h2⟩
theorem argT (KX : K.In h) (ar : ∀ a ∈ A, ArgOb h A a) {a : Addr} {vs : List Value} (ha : a ∈ A) (e : h.get? a = some { cls := .type "tuple", data := .seq vs.toArray }) : (∀ u ∈ vs, OkU A u) ∧ SqT K (argH K h A) a (vs.map toV) := by
  obtain ⟨us, h1, h2, h3⟩ := ar a ha
  have hu : us = vs := by
    rcases h3 with q | q
    · rw [e] at q
      exact absurd (Value.type.inj (seq_inj q).1) (by decide)
    · rw [e] at q
      exact (seq_inj q).2.symm
  subst hu
  refine ⟨h2, ?_⟩
  cases hk : K.lookup a with
  | none => exact .inl (.inr ⟨_, by rw [argH_at ha hk e, hoOf_tup]⟩)
  | some o =>
    have e2 := KX a o hk
    rw [e] at e2
    obtain rfl := Option.some.inj e2
    exact .inr ⟨_, us.toArray, _, hk, rfl, rfl, by rw [List.size_toArray]; exact h1, by simpa using vals_toV h2⟩
mutual
theorem dw_one {Pm : Params} (KX : K.In h) (ar : ∀ a ∈ A, ArgOb h A a) : ∀ (d : WData) (v : Value), Well Pm h v d → plW d = true → OkU A v → Dw K (argH K h A) (toV v) d
  | .none, _, x, _, _ => by
    cases x
    exact .non
  | .bool b, _, x, _, _ => by
    cases x
    exact .bl b
  | .int i, _, x, _, _ => by
    cases x
    exact .int i
  | .str s, _, x, _, _ => by
    cases x
    exact .str s
  | .bytes b, _, x, _, _ => by
    cases x
    have z := Dw.byt (K := K) (H := argH K h A) b.toArray
    exact z
  | .list ds, _, x, p, hu => by
    obtain ⟨a, vs, rfl, ho, hall⟩ := well_list x
    obtain ⟨h2, hs⟩ := argL KX ar hu ho
    exact .lst hs (dw_all KX ar ds _ hall p h2)
  | .tuple ds, _, x, p, hu => by
    obtain ⟨a, vs, rfl, ho, hall⟩ := well_tuple x
    obtain ⟨h2, hs⟩ := argT KX ar hu ho
    exact .tup hs (dw_all KX ar ds _ hall p h2)
  | .float _, _, _, p, _ => Bool.noConfusion (show false = true from p)
  | .dict _, _, _, p, _ => Bool.noConfusion (show false = true from p)
  | .bytearray _, _, _, p, _ => Bool.noConfusion (show false = true from p)
  | .set _, _, _, p, _ => Bool.noConfusion (show false = true from p)
  | .frozenset _, _, _, p, _ => Bool.noConfusion (show false = true from p)
  | .obj _ _, _, _, p, _ => Bool.noConfusion (show false = true from p)
theorem dw_all {Pm : Params} (KX : K.In h) (ar : ∀ a ∈ A, ArgOb h A a) : ∀ (ds : List WData) (vs : List Value), WellAll Pm h vs ds → plWs ds = true → (∀ u ∈ vs, OkU A u) → DwAll K (argH K h A) (vs.map toV) ds
  | [], _, x, _, _ => by
    cases x
    exact .nil
  | d :: ds, _, x, p, hu => by
    obtain ⟨v, vs, rfl, x1, x2⟩ := well_cons x
    have q : plW d = true ∧ plWs ds = true := Bool.and_eq_true_iff.mp p
    exact .cons (dw_one KX ar d v x1 q.1 (hu _ (List.mem_cons_self ..))) (dw_all KX ar ds vs x2 q.2 fun u m => hu u (List.mem_cons_of_mem _ m))
end
end
theorem spec_call {P : Program} {w : World} {K : PySem.W.Frag} {mg mb : Str → Option Value} {CX : CXT} {k : Nat} {fa : Addr} {fd : FuncData} {ps : List Str} {sp : Sp} {s₁ : Shared} {vals : List Value} {ds : List WData} {R : PySem.W.WRecords} {cl : Str → Option Addr} {d0 : WData}
    (KX : K.In s₁.heap) (hns : s₁.heap.Ns mainGlobals mg) (hb : s₁.heap.Ns builtinsNs mb) (hbb : ∀ x : Str, x ≠ "__name__" → mb x = bootBuiltins x) (hlim : s₁.heap.NoLimit) (hg : s₁.gens = #[])
    (hwl : WellAll w.params s₁.heap vals ds) (hpl : plWs ds = true) (hwt : ∀ d ∈ ds, d.weight ≤ 1048576) (hr : Room k callerA)
    (F : ∀ base : Heap, K.In base → base.Ns mainGlobals mg → FnOk P w K mg base CX k fa fd ps sp) (hbind : ∀ (s : Shared) (us : List Value), us.length = ps.length → BindsTo s fd ⟨us, []⟩ (ps.zip us)) (hlen : ds.length = ps.length)
    (hsp : ∀ (H : Hp) (xs : List V), OnlyF H → DwAll K H xs ds → sp xs H (fun v H' => Dw K H' v d0) fun _ _ _ => False)
    (hCX : ∀ H e s', CX [] H s₁ (fun _ _ _ => False) e s' → False) :
    codeAny (model P w) callerA (.call (.ref fa) ⟨vals, []⟩) (fun r s' => ∃ u as, r = .ok (.ret u) ∧ ReadsW R cl s'.heap u d0 as ∧ OldK s₁.heap s'.heap ∧ s'.os = s₁.os ∧ AllBare s'.gens) s₁ := by
  obtain ⟨A, ho, ar⟩ := area_all ds vals hwl hpl hwt
  have hO : OnlyF (argH K s₁.heap A) := argH_only ar
  have hok : HOk P w (argH K s₁.heap A) s₁.heap := argH_ok ar
  have hS := dw_all KX ar ds vals hwl hpl ho
  have hV := vals_toV ho
  have hK : ∀ b u, argH K s₁.heap A b = some u → K.lookup b = none := fun b u q => (argH_is ar q).1
  have noA : ∀ {b : Addr} {o : Obj} {es : Array DictEntry} {ep : Nat}, s₁.heap.get? b = some o → o.data = .dict es ep → argH K s₁.heap A b = none := fun {b o es ep} e d => by
    cases q : argH K s₁.heap A b with
    | none => rfl
    | some u =>
      obtain ⟨_, vs, _, _, ⟨e2, _⟩ | ⟨e2, _⟩⟩ := argH_is ar q
      · rw [e2] at e
        cases e
        have d' : Data.seq vs.toArray _ = Data.dict es ep := d
        cases d'
      · rw [e2] at e
        cases e
        have d' : Data.seq vs.toArray _ = Data.dict es ep := d
        cases d'
  generalize argH K s₁.heap A = H at hO hok hS hK noA
  have base_of : ∀ {b : Addr} {o : Obj}, s₁.heap.get? b = some o → H b = none → (hidT s₁.heap H).get? b = some o := fun e n => hidT_get e n
  have nsK : ∀ {b : Addr} {m : Str → Option Value}, s₁.heap.Ns b m → (hidT s₁.heap H).Ns b m := fun {b m} ⟨o, es, ep, e, d, r⟩ => ⟨o, es, ep, base_of e (noA e d), d, r⟩
  have nK : ∀ b o, K.lookup b = some o → H b = none := fun b o e => by
    cases q : H b with
    | none => rfl
    | some u =>
      rw [hK b u q] at e
      cases e
  have hKb : K.In (hidT s₁.heap H) := fun b o e => base_of (KX b o e) (nK b o e)
  have hM : Mod K mg (hidT s₁.heap H) := ⟨hKb, nsK hns, ⟨mb, nsK hb, hbb⟩, let ⟨mc, h1, h2⟩ := hlim; ⟨mc, nsK h1, h2⟩⟩
  have e0 : Env0 P w K mg (hidT s₁.heap H) callerA [] s₁ H := ⟨rfl, hM, fun b o e => of_hidT e, Nat.le_of_eq (hidT_size _ _), trivial, fun b hb => absurd (show b ∈ ([] : List Addr) from hb) (by simp), hok, .of_eq hg⟩
  have hl : vals.length = ps.length := by rw [wellAll_len hwl]; exact hlen
  refine codeAny_mono ((F _ hKb (nsK hns)).run callerA [] s₁ H ⟨vals, []⟩ vals (vals.map toV) _ _ hr e0 (hbind s₁ vals hl) hV (hsp H _ hO hS)) fun r s' x => ?_
  cases r with
  | error e => exact (hCX H e s' x).elim
  | ok fl =>
    cases fl with
    | next => exact False.elim x
    | brk => exact False.elim x
    | cont => exact False.elim x
    | ret u =>
      obtain ⟨v, H', os, bare, un, hok', r', q⟩ := x
      have kept : ∀ b o, s₁.heap.get? b = some o → s'.heap.get? b = some o := fun b o e => by
        cases q2 : H b with
        | none => exact un.keep b o e q2 (by intro z; exact absurd (show b ∈ ([] : List Addr) from z) (by simp)) (by simp)
        | some u2 =>
          rcases hO b with z | ⟨ob, u3, z⟩
          · rw [q2] at z
            cases z
          · have z2 := un.frzs b ob _ z
            obtain ⟨e1, _⟩ := hok b _ z
            obtain ⟨e2, _⟩ := hok' b _ z2
            rw [e] at e1
            cases e1
            exact e2
      have KX' : K.In s'.heap := fun b o e => kept b o (KX b o e)
      obtain ⟨as, hrd⟩ := Dw.reads (R := R) (cl := cl) hok' KX' d0 v u q r'
      exact ⟨u, as, rfl, hrd, OldK.of_keep kept, os, bare⟩
theorem layable_weight {ds : List WData} (h : WData.layableAll ds = true) : ∀ d ∈ ds, d.weight ≤ 1048576 := fun d hd =>
  (PySem.W.layableW_iff.mp (List.all_eq_true.mp h d hd)).2.2
theorem encAll_len : ∀ (cs : List Codec) (a : Codec.denoteAll cs), (Codec.encAll cs a).length = cs.length
  | [], _ => rfl
  | c :: cs, a => by
    show (Codec.encAll cs a.2).length + 1 = cs.length + 1
    rw [encAll_len cs a.2]
theorem walk_spec {r : OpenSpec} {k : Nat} {q : Program} {loose : List Str} {XP : (Str → Option Value) → Heap → Prop} {YP : World → Heap → Prop} {d : DefRec} {K : Params → PySem.W.Frag} {CX : World → CXT} {ps : List Str} {sp : World → Sp}
    (hwell : r.wellSaid = true) (hdf : d.params.defaults = []) (hlen : r.args.length = ps.length) (hr : Room k callerA)
    (hY : ∀ (w : World) (h : Heap), YP w h → (K w.params).In h)
    (F : ∀ (w : World) (mg : Str → Option Value) (fa : Addr) (h : Heap), YP w h → (K w.params).In h → h.Ns mainGlobals mg → mg d.name = some (.ref fa) →
      ∃ fd : FuncData, (∀ (s : Shared) (us : List Value), us.length = ps.length → BindsTo s fd ⟨us, []⟩ (ps.zip us)) ∧
        ∀ base : Heap, (K w.params).In base → base.Ns mainGlobals mg → FnOk r.prog w (K w.params) mg base (CX w) k fa fd ps (sp w))
    (hsp : ∀ (w : World) (H : Hp) (xs : List V) (a : Codec.denoteAll r.args), OnlyF H → Codec.withinAll r.args a = true → Codec.app r.args r.asked a = true → DwAll (K w.params) H xs (Codec.encAll r.args a) →
      sp w xs H (fun v H' => Dw (K w.params) H' v (r.ret.enc (Codec.app r.args r.f a))) fun _ _ _ => False)
    (hCX : ∀ (w : World) (H : Hp) (s : Shared) (e : Value) (s' : Shared), CX w [] H s (fun _ _ _ => False) e s' → False) :
    PySem.W.WalkOS q loose XP YP r d [] (fun f vs => PySem.call f vs) := by
  intro w s_0 s₁ mg mb G Y fa o pm cd doc dV kV ho hd hcd hD hmg hg args vals as hpre hlay hrd hwl hlo
  obtain ⟨a, e1, e2⟩ := PySem.W.os_pre_some hpre
  obtain ⟨e3, hwi⟩ := Codec.encAll_of_decAll r.args args a e1
  subst e3
  have KX := hY w _ Y
  obtain ⟨fd, hb, hF⟩ := F w mg fa _ Y KX G.T.g hmg
  refine PySem.W.enter_call (codeAny_mono (spec_call (R := []) (cl := classAt s_0.heap) (d0 := r.ret.enc (Codec.app r.args r.f a)) KX G.T.g G.T.b G.T.builtins G.T.nolimit hg hwl (pl_encAll _ _) (layable_weight hlay) hr hF hb (by rw [encAll_len]; exact hlen)
    (fun H xs hO hS => hsp w H xs a hO hwi e2 hS) fun H e s' => hCX w H s₁ e s') fun r' s' hq => ?_)
  obtain ⟨u, as', rfl, h1, h2, h3, h4⟩ := hq
  exact ⟨.inl ⟨u, _, as', rfl, fun _ => rfl, h1, (OpenSpec.post_iff hwell hwi _ _).mpr rfl, fun z => Bool.noConfusion (show false = true from z)⟩, h2, h3, h4⟩
theorem walk_specK {r : OpenSpec} {k : Nat} {q : Program} {loose : List Str} {XP : (Str → Option Value) → Heap → Prop} {YP : World → Heap → Prop} {d : DefRec} {K : Params → PySem.W.Frag} {CX : CXT} {ps : List Str} {sp : PySem.W.Frag → Sp}
    (hwell : r.wellSaid = true) (hdf : d.params.defaults = []) (hlen : r.args.length = ps.length) (hr : Room k callerA)
    (hY : ∀ (w : World) (h : Heap), YP w h → (K w.params).In h)
    (F : ∀ (w : World) (mg : Str → Option Value) (fa : Addr) (h : Heap), YP w h → (K w.params).In h → h.Ns mainGlobals mg → mg d.name = some (.ref fa) →
      ∃ fd : FuncData, (∀ (s : Shared) (us : List Value), us.length = ps.length → BindsTo s fd ⟨us, []⟩ (ps.zip us)) ∧
        ∀ base : Heap, (K w.params).In base → base.Ns mainGlobals mg → FnOk r.prog w (K w.params) mg base CX k fa fd ps (sp (K w.params)))
    (hsp : ∀ (K : PySem.W.Frag) (H : Hp) (xs : List V) (a : Codec.denoteAll r.args), OnlyF H → Codec.withinAll r.args a = true → Codec.app r.args r.asked a = true → DwAll K H xs (Codec.encAll r.args a) →
      sp K xs H (fun v H' => Dw K H' v (r.ret.enc (Codec.app r.args r.f a))) fun _ _ _ => False)
    (hCX : ∀ (H : Hp) (s : Shared) (e : Value) (s' : Shared), CX [] H s (fun _ _ _ => False) e s' → False) :
    PySem.W.WalkOS q loose XP YP r d [] (fun f vs => PySem.call f vs) :=
  walk_spec (K := K) (CX := fun _ => CX) (sp := fun w => sp (K w.params)) hwell hdf hlen hr hY F (fun w H xs a h1 h2 h3 h4 => hsp (K w.params) H xs a h1 h2 h3 h4) fun _ H s e s' => hCX H s e s'
end L2
end

end
section
set_option Elab.async false
set_option linter.all false
set_option maxRecDepth 100000
set_option maxHeartbeats 2000000
namespace B
open PySem
def ItB (q : Bool) (h : Heap) (it a : Addr) (i : Nat) : Prop := if q = true then h.IsListIter it a i else h.IsTupleIter it a i
def SeB (q : Bool) (h : Heap) (a : Addr) (xs : Array Value) : Prop := if q = true then h.IsList a xs else h.IsTuple a xs
theorem ItB.obj {q : Bool} {h : Heap} {it a : Addr} {i : Nat} (x : ItB q h it a i) : ∃ o, h.get? it = some o ∧ ∀ v, o.data ≠ .cell v := by
  cases q with
  | true => obtain ⟨o, e, _, d⟩ := (show h.IsListIter it a i from x); exact ⟨o, e, fun v z => by rw [d] at z; cases z⟩
  | false => obtain ⟨o, e, _, d⟩ := (show h.IsTupleIter it a i from x); exact ⟨o, e, fun v z => by rw [d] at z; cases z⟩
theorem ItB.keep {q : Bool} {h h' : Heap} {it a : Addr} {i : Nat} (x : ItB q h it a i) (k : ∀ o, h.get? it = some o → h'.get? it = some o) : ItB q h' it a i := by
  cases q with
  | true => exact Heap.IsListIter.at (show h.IsListIter it a i from x) k
  | false => exact Heap.IsTupleIter.at (show h.IsTupleIter it a i from x) k
theorem SeB.keep {q : Bool} {h h' : Heap} {a : Addr} {xs : Array Value} (x : SeB q h a xs) (k : ∀ o, h.get? a = some o → h'.get? a = some o) : SeB q h' a xs := by
  cases q with
  | true => obtain ⟨o, e, r⟩ := (show h.IsList a xs from x); exact ⟨o, k o e, r⟩
  | false => obtain ⟨o, e, r⟩ := (show h.IsTuple a xs from x); exact ⟨o, k o e, r⟩
theorem SeB.lt {q : Bool} {h : Heap} {a : Addr} {xs : Array Value} (x : SeB q h a xs) : a < h.objs.size := by
  cases q with
  | true => obtain ⟨o, e, r⟩ := (show h.IsList a xs from x); exact Heap.lt_size e
  | false => obtain ⟨o, e, r⟩ := (show h.IsTuple a xs from x); exact Heap.lt_size e
section
variable {prog : Program} {w : World} {A : Around} {E : Value → Shared → Prop} {s : Shared}
end
end B

end
section
set_option Elab.async false
set_option linter.all false
set_option maxRecDepth 100000
set_option maxHeartbeats 2000000
namespace B
open PySem PySem.Spec PyProof.Rows L2
open PySem.W (WData)
abbrev Rv := List (Option WData)
theorem same_refl {H : Hp} : Same H H := fun _ _ h => h
theorem same_new {H : Hp} {p : Addr} {o : HO} (h : H p = none) : Same H (upd H p o) := fun b u e => by rw [upd_ne (ne_of_none e h)]; exact e
theorem same_tup {K : PySem.W.Frag} {H H' : Hp} {a : Addr} {xs : List V} (e : Same H H') (h : SqT K H a xs) : SqT K H' a xs := by
  rcases h with (h | ⟨o, h⟩) | h
  · exact .inl (.inl (e _ _ h))
  · exact .inl (.inr ⟨o, e _ _ h⟩)
  · exact .inr h
mutual
theorem dw_same {K : PySem.W.Frag} {H H' : Hp} (e : Same H H') : ∀ (d : WData) (v : V), Dw K H v d → Dw K H' v d
  | .none, _, x => by cases x; exact .non
  | .bool b, _, x => by cases x; exact .bl b
  | .int i, _, x => by cases x; exact .int i
  | .str s, _, x => by cases x; exact .str s
  | .bytes b, _, x => by cases x; exact .byt _
  | .list ds, _, x => by
    cases x with
    | lst hs ha => exact .lst (e.seq hs) (dwa_same e ds _ ha)
  | .tuple ds, _, x => by
    cases x with
    | tup hs ha => exact .tup (same_tup e hs) (dwa_same e ds _ ha)
  | .float _, _, x => by cases x
  | .dict _, _, x => by cases x
  | .bytearray _, _, x => by cases x
  | .set _, _, x => by cases x
  | .frozenset _, _, x => by cases x
  | .obj _ _, _, x => by cases x
theorem dwa_same {K : PySem.W.Frag} {H H' : Hp} (e : Same H H') : ∀ (ds : List WData) (vs : List V), DwAll K H vs ds → DwAll K H' vs ds
  | [], _, x => by cases x; exact .nil
  | d :: ds, _, x => by
    cases x with
    | cons h1 h2 => exact .cons (dw_same e d _ h1) (dwa_same e ds _ h2)
end
theorem dwa_len {K : PySem.W.Frag} {H : Hp} : ∀ {ds : List WData} {vs : List V}, DwAll K H vs ds → vs.length = ds.length
  | [], _, x => by cases x; rfl
  | d :: ds, _, x => by
    cases x with
    | cons h1 h2 => rw [List.length_cons, List.length_cons, dwa_len h2]
theorem dwa_get {K : PySem.W.Frag} {H : Hp} : ∀ {ds : List WData} {vs : List V} {i : Nat} {d : WData}, DwAll K H vs ds → ds[i]? = some d → ∃ v, vs[i]? = some v ∧ Dw K H v d
  | [], _, _, _, _, e => by simp at e
  | d :: ds, _, 0, d', x, e => by
    cases x with
    | cons h1 h2 =>
      have e : d = d' := Option.some.inj e
      subst e
      exact ⟨_, rfl, h1⟩
  | d :: ds, _, i + 1, d', x, e => by
    cases x with
    | cons h1 h2 => exact dwa_get (i := i) h2 e
theorem dwa_snoc {K : PySem.W.Frag} {H : Hp} {v : V} {d : WData} (h : Dw K H v d) : ∀ {ds : List WData} {vs : List V}, DwAll K H vs ds → DwAll K H (vs ++ [v]) (ds ++ [d])
  | [], _, x => by cases x; exact .cons h .nil
  | d :: ds, _, x => by
    cases x with
    | cons h1 h2 => exact .cons h1 (dwa_snoc h h2)
theorem dwa_append {K : PySem.W.Frag} {H : Hp} {ws : List V} {es : List WData} (h : DwAll K H ws es) : ∀ {ds : List WData} {vs : List V}, DwAll K H vs ds → DwAll K H (vs ++ ws) (ds ++ es)
  | [], _, x => by cases x; exact h
  | d :: ds, _, x => by
    cases x with
    | cons h1 h2 => exact .cons h1 (dwa_append h h2)
mutual
def flat : WData → Bool
  | .list _ => false
  | .tuple ds => flats ds
  | _ => true
def flats : List WData → Bool
  | [] => true
  | d :: ds => flat d && flats ds
end
theorem tup_upd {K : PySem.W.Frag} {H : Hp} {a D : Addr} {xs acc : List V} {o : HO} (hD : H D = some (.lst acc)) (h : SqT K H a xs) : SqT K (upd H D o) a xs := by
  rcases h with (h | ⟨u, h⟩) | h
  · exact .inl (.inl (by rw [upd_ne (ne_of h hD (by intro z; cases z))]; exact h))
  · exact .inl (.inr ⟨u, by rw [upd_ne (ne_of h hD (by intro z; cases z))]; exact h⟩)
  · exact .inr h
mutual
theorem dw_upd {K : PySem.W.Frag} {H : Hp} {D : Addr} {acc : List V} {o : HO} (hD : H D = some (.lst acc)) : ∀ (d : WData) (v : V), flat d = true → Dw K H v d → Dw K (upd H D o) v d
  | .none, _, _, x => by cases x; exact .non
  | .bool b, _, _, x => by cases x; exact .bl b
  | .int i, _, _, x => by cases x; exact .int i
  | .str s, _, _, x => by cases x; exact .str s
  | .bytes b, _, _, x => by cases x; exact .byt _
  | .list ds, _, f, x => Bool.noConfusion (show false = true from f)
  | .tuple ds, _, f, x => by
    cases x with
    | tup hs ha => exact .tup (tup_upd hD hs) (dwa_upd hD ds _ f ha)
  | .float _, _, _, x => by cases x
  | .dict _, _, _, x => by cases x
  | .bytearray _, _, _, x => by cases x
  | .set _, _, _, x => by cases x
  | .frozenset _, _, _, x => by cases x
  | .obj _ _, _, _, x => by cases x
theorem dwa_upd {K : PySem.W.Frag} {H : Hp} {D : Addr} {acc : List V} {o : HO} (hD : H D = some (.lst acc)) : ∀ (ds : List WData) (vs : List V), flats ds = true → DwAll K H vs ds → DwAll K (upd H D o) vs ds
  | [], _, _, x => by cases x; exact .nil
  | d :: ds, _, f, x => by
    have f : flat d = true ∧ flats ds = true := Bool.and_eq_true_iff.mp f
    cases x with
    | cons h1 h2 => exact .cons (dw_upd hD d _ f.1 h1) (dwa_upd hD ds _ f.2 h2)
end
structure Rho (K : PySem.W.Frag) (H : Hp) (σ : L2.St) (r : Rv) : Prop where
  len : r.length = σ.length
  at_ : ∀ (i : Nat) (d : WData), r[i]? = some (some d) → ∃ v, σ[i]? = some (some v) ∧ Dw K H v d
theorem Rho.same {K : PySem.W.Frag} {H H' : Hp} {σ : L2.St} {r : Rv} (h : Rho K H σ r) (e : Same H H') : Rho K H' σ r :=
  ⟨h.len, fun i d q => let ⟨v, a, b⟩ := h.at_ i d q; ⟨v, a, dw_same e d v b⟩⟩
theorem Rho.set {K : PySem.W.Frag} {H : Hp} {σ : L2.St} {r : Rv} {i : Nat} {v : V} {d : WData} (h : Rho K H σ r) (x : Dw K H v d) : Rho K H (σ.set i (some v)) (r.set i (some d)) := by
  refine ⟨by rw [List.length_set, List.length_set]; exact h.len, fun j e q => ?_⟩
  by_cases hj : i = j
  · subst hj
    by_cases hl : i < r.length
    · rw [List.getElem?_set_self hl] at q
      have q : d = e := Option.some.inj (Option.some.inj q)
      subst q
      exact ⟨v, by rw [List.getElem?_set_self (by rw [← h.len]; exact hl)], x⟩
    · rw [List.getElem?_eq_none (by rw [List.length_set]; omega)] at q
      cases q
  · rw [List.getElem?_set_ne hj] at q
    obtain ⟨w, a, b⟩ := h.at_ j e q
    exact ⟨w, by rw [List.getElem?_set_ne hj]; exact a, b⟩
theorem Rho.start {K : PySem.W.Frag} {H : Hp} {N : List Str} {vs : List V} {ds : List WData} (h : DwAll K H vs ds) : Rho K H (L2.start N vs) (ds.map some ++ List.replicate (N.length - ds.length) none) := by
  have hl := dwa_len h
  refine ⟨by unfold L2.start; simp [hl], fun i d q => ?_⟩
  by_cases hi : i < ds.length
  · rw [List.getElem?_append_left (by simpa using hi), List.getElem?_map] at q
    cases e : ds[i]? with
    | none => rw [e] at q; cases q
    | some d' =>
      rw [e] at q
      have q : d' = d := Option.some.inj (Option.some.inj q)
      subst q
      obtain ⟨v, a, b⟩ := dwa_get h e
      refine ⟨v, ?_, b⟩
      unfold L2.start
      rw [List.getElem?_append_left (by rw [List.length_map, hl]; exact hi), List.getElem?_map, a]
      rfl
  · rw [List.getElem?_append_right (by simpa using hi), List.getElem?_replicate] at q
    split at q <;> cases q
def tEv (K : PySem.W.Frag) (r : Rv) (d : WData) : TE := fun σ H Q => Rho K H σ r ∧ ∀ v H', Same H H' → Dw K H' v d → Q v H'
def tEvA (K : PySem.W.Frag) (r : Rv) (ds : List WData) : TA := fun σ H Q => Rho K H σ r ∧ ∀ vs H', Same H H' → DwAll K H' vs ds → Q vs H'
def tTs (K : PySem.W.Frag) (r : Rv) (b : Bool) : TT := fun σ H Q => Rho K H σ r ∧ ∀ H', Same H H' → Q b H'
def tRtn (K : PySem.W.Frag) (r : Rv) (d : WData) : TS := fun D σ H => Rho K H σ r ∧ ∀ v H', Same H H' → Dw K H' v d → D.rt v H'
def tNxt (K : PySem.W.Frag) (r r' : Rv) : TS := fun D σ H => Rho K H σ r ∧ ∀ σ' H', Same H H' → Rho K H' σ' r' → D.nx σ' H'
abbrev Ev (X : Cx) (e : Expr) (r : Rv) (d : WData) : Prop := PE X e (tEv X.K r d)
abbrev EvA (X : Cx) (es : List Expr) (r : Rv) (ds : List WData) : Prop := PA X es (tEvA X.K r ds)
abbrev Tt (X : Cx) (e : Expr) (r : Rv) (b : Bool) : Prop := PT X e (tTs X.K r b)
abbrev Tw (X : Cx) (e : Expr) (r : Rv) (b : Bool) : Prop := PW X e (tTs X.K r b)
abbrev Rt (X : Cx) (sts : List Stmt) (r : Rv) (d : WData) : Prop := PSs X sts (tRtn X.K r d)
abbrev Nx (X : Cx) (st : Stmt) (r r' : Rv) : Prop := PS X st (tNxt X.K r r')
abbrev Nxs (X : Cx) (sts : List Stmt) (r r' : Rv) : Prop := PSs X sts (tNxt X.K r r')
section
variable {X : Cx} {e a b c : Expr} {es : List Expr} {r r' : Rv} {d d' : WData} {ds : List WData} {pos : Pos}
theorem PEof {t t' : TE} (h : PE X e t) (k : ∀ σ H Q, t' σ H Q → t σ H Q) : PE X e t' := fun pins s σ H Q I q => h pins s σ H Q I (k σ H Q q)
theorem PAof {t t' : TA} (h : PA X es t) (k : ∀ σ H Q, t' σ H Q → t σ H Q) : PA X es t' := fun pos pins s σ H Q I q => h pos pins s σ H Q I (k σ H Q q)
theorem PTof {t t' : TT} (h : PT X e t) (k : ∀ σ H Q, t' σ H Q → t σ H Q) : PT X e t' := fun pins s σ H Q I q => h pins s σ H Q I (k σ H Q q)
theorem PWof {t t' : TT} (h : PW X e t) (k : ∀ σ H Q, t' σ H Q → t σ H Q) : PW X e t' := fun wh pins s σ H Q I q => h wh pins s σ H Q I (k σ H Q q)
theorem PSof {st : Stmt} {t t' : TS} (h : PS X st t) (k : ∀ D σ H, t' D σ H → t D σ H) : PS X st t' := fun pins s σ H D I q => h pins s σ H D I (k D σ H q)
theorem PSsof {st : List Stmt} {t t' : TS} (h : PSs X st t) (k : ∀ D σ H, t' D σ H → t D σ H) : PSs X st t' := fun pins s σ H D I q => h pins s σ H D I (k D σ H q)
theorem ev_var (i : Nat) {x : Str} (h : r[i]? = some (some d)) (hN : X.N[i]? = some x := by rfl) (hv : Vis X.env.scope x := by first | exact Or.inl rfl | exact Or.inr (Or.inl rfl) | exact Or.inr (Or.inr rfl)) (hd : (x == ("__debug__" : Str)) = false := by decide)
    (hcd : (x == ("__classdict__" : Str)) = false := by decide) : Ev X (.Name x pos) r d :=
  PEof (pv i hN hv hd hcd) fun σ H Q ⟨hr, k⟩ => let ⟨v, e, x⟩ := hr.at_ i d h; ⟨v, e, k v H same_refl x⟩
theorem ev_int {i : Int} {j : Nat} : Ev X (.Constant (.int i) j pos) r (.int i) := PEof pe_int fun σ H Q ⟨_, k⟩ => k _ H same_refl (.int i)
theorem ev_str {x : Str} {j : Nat} : Ev X (.Constant (.str x) j pos) r (.str x) := PEof pe_str fun σ H Q ⟨_, k⟩ => k _ H same_refl (.str x)
def Glo (K : PySem.W.Frag) (mg : Str → Option Value) (x : Str) (d : WData) : Prop := ∃ u v, mg x = some u ∧ RelV v u ∧ ∀ H, Dw K H v d
theorem ev_glob {x : Str} (h : Glo X.K X.mg x d) (hg : Gl X x := by rfl) (hd : (x == ("__debug__" : Str)) = false := by decide) : Ev X (.Name x pos) r d := by
  obtain ⟨u, v, hm, rv, hw⟩ := h
  exact PEof (pe_glob hg hm rv hd) fun σ H Q ⟨_, k⟩ => k _ H same_refl (hw H)
theorem int_dw {K : PySem.W.Frag} {H : Hp} {v : V} {i : Int} (h : Dw K H v (.int i)) : v = .int i := by cases h; rfl
theorem bl_dw {K : PySem.W.Frag} {H : Hp} {v : V} {i : Bool} (h : Dw K H v (.bool i)) : v = .bl i := by cases h; rfl
theorem str_dw {K : PySem.W.Frag} {H : Hp} {v : V} {i : Str} (h : Dw K H v (.str i)) : v = .str i := by cases h; rfl
theorem tup_dw {K : PySem.W.Frag} {H : Hp} {v : V} (h : Dw K H v (.tuple ds)) : ∃ p vs, v = .ref p ∧ SqT K H p vs ∧ DwAll K H vs ds := by
  cases h with
  | tup h1 h2 => exact ⟨_, _, rfl, h1, h2⟩
theorem lst_dw {K : PySem.W.Frag} {H : Hp} {v : V} (h : Dw K H v (.list ds)) : ∃ p vs, v = .ref p ∧ SqL K H p vs ∧ DwAll K H vs ds := by
  cases h with
  | lst h1 h2 => exact ⟨_, _, rfl, h1, h2⟩
theorem ev_two {rr : R2} {da db : WData} (h : ∀ {ta tb : TE}, PE X a ta → PE X b tb → PE X e (tOp rr ta tb)) (ha : Ev X a r da) (hb : Ev X b r db)
    (k : ∀ H x y Q, Dw X.K H x da → Dw X.K H y db → (∀ v H', Same H H' → Dw X.K H' v d → Q v H') → rr x y H Q) : Ev X e r d :=
  PEof (h ha hb) fun σ H Q ⟨hr, q⟩ => ⟨hr, fun x H1 s1 x1 => ⟨hr.same s1, fun y H2 s2 x2 => k H2 x y Q (dw_same s2 _ _ x1) x2 fun v H3 s3 x3 => q v H3 ((s1.trans s2).trans s3) x3⟩⟩
theorem ev_op {op : Operator} {f : Int → Int → Int} {C : Int → Int → Prop} {i j : Int} (ho : OpR X (binaryOp op) (rI C fun i j => .int (f i j))) (ha : Ev X a r (.int i)) (hb : Ev X b r (.int j)) (hc : C i j) : Ev X (.BinOp a op b pos) r (.int (f i j)) :=
  ev_two (fun h1 h2 => pe_op ho h1 h2) ha hb fun H x y Q h1 h2 k => ⟨i, j, int_dw h1, int_dw h2, hc, k _ H same_refl (.int _)⟩
theorem ev_op0 {op : Operator} {f : Int → Int → Int} {i j : Int} (ho : OpR X (binaryOp op) (rI0 fun i j => .int (f i j))) (ha : Ev X a r (.int i)) (hb : Ev X b r (.int j)) : Ev X (.BinOp a op b pos) r (.int (f i j)) :=
  ev_two (fun h1 h2 => pe_op ho h1 h2) ha hb fun H x y Q h1 h2 k => ⟨i, j, int_dw h1, int_dw h2, k _ H same_refl (.int _)⟩
theorem ev_add {i j : Int} (ha : Ev X a r (.int i)) (hb : Ev X b r (.int j)) : Ev X (.BinOp a .Add b pos) r (.int (i + j)) := ev_op0 op_add ha hb
theorem ev_sub {i j : Int} (ha : Ev X a r (.int i)) (hb : Ev X b r (.int j)) : Ev X (.BinOp a .Sub b pos) r (.int (i - j)) := ev_op0 op_sub ha hb
theorem ev_neg {i : Int} (ha : Ev X a r (.int i)) : Ev X (.UnaryOp .USub a pos) r (.int (-i)) :=
  PEof (pe_un un_neg ha) fun σ H Q ⟨hr, k⟩ => ⟨hr, fun x H1 s1 x1 => ⟨i, int_dw x1, k _ H1 s1 (.int _)⟩⟩
def Sm (i : Int) : Prop := i.natAbs < 2 ^ 1000
theorem bits_of {i : Int} (h : Sm i) : Builtin.Int.intBits i ≤ 2 ^ 20 := by
  unfold Sm at h
  unfold Builtin.Int.intBits
  split
  · exact Nat.zero_le _
  · rename_i hi
    have hi : ¬ i = 0 := fun z => hi (by rw [z]; rfl)
    have : i.natAbs ≠ 0 := by omega
    have := (Nat.log2_lt this).mpr h
    omega
theorem op_mulB : OpR X (binaryOp .Mult) (rI (fun i j => Sm i ∧ Sm j) fun i j => .int (i * j)) := opI fun _ _ _ _ _ _ _ hc q => mul_int q (PySem.IntMulOk.of_bits (bits_of hc.1) (bits_of hc.2))
theorem ev_mul {i j : Int} (ha : Ev X a r (.int i)) (hb : Ev X b r (.int j)) (h : Sm i) (h' : Sm j) : Ev X (.BinOp a .Mult b pos) r (.int (i * j)) := ev_op op_mulB ha hb ⟨h, h'⟩
theorem op_fdivB : OpR X (binaryOp .FloorDiv) (rI (fun _ j => 0 < j ∧ Sm j) fun i j => .int (i / j)) := opI fun i j _ _ _ _ _ hc q => by
  have h1 : (0 : Int) < j := hc.1
  have h2 : j.natAbs < 2 ^ 1000 := hc.2
  have h3 : j.natAbs.log2 < 9000 := by
    have : j.natAbs ≠ 0 := by omega
    have := (Nat.log2_lt this).mpr h2
    omega
  exact floordiv_int (by omega) (by rw [Int.fdiv_eq_ediv_of_nonneg i (by omega)]; exact q) (.inl (PyProof.noPylong_of_log2 h3))
theorem ev_fdiv {i j : Int} (ha : Ev X a r (.int i)) (hb : Ev X b r (.int j)) (h : 0 < j) (h' : Sm j) : Ev X (.BinOp a .FloorDiv b pos) r (.int (i / j)) := ev_op op_fdivB ha hb ⟨h, h'⟩
theorem ev_mod {i j : Int} (ha : Ev X a r (.int i)) (hb : Ev X b r (.int j)) (h : 0 < j) : Ev X (.BinOp a .Mod b pos) r (.int (i % j)) := ev_op op_mod ha hb h
theorem ev_cmp {op : CmpOp} {p : Int → Int → Bool} {i j : Int} (ho : OpR X (compareOp op) (rI0 fun i j => .bl (p i j))) (h1 : op ≠ .In) (h2 : op ≠ .NotIn) (ha : Ev X a r (.int i)) (hb : Ev X b r (.int j)) : Ev X (.Compare a [op] [b] pos) r (.bool (p i j)) :=
  ev_two (fun x y => pe_cmpR ho x y (nobehind b h1 h2)) ha hb fun H x y Q x1 x2 k => ⟨i, j, int_dw x1, int_dw x2, k _ H same_refl (.bl _)⟩
theorem ev_le {i j : Int} (ha : Ev X a r (.int i)) (hb : Ev X b r (.int j)) : Ev X (.Compare a [.LtE] [b] pos) r (.bool (decide (i ≤ j))) := ev_cmp op_le (by decide) (by decide) ha hb
theorem tt_cmp {op : CmpOp} {p : Int → Int → Bool} {i j : Int} (ho : OpR X (compareOp op) (rI0 fun i j => .bl (p i j))) (h1 : op ≠ .In) (h2 : op ≠ .NotIn) (ha : Ev X a r (.int i)) (hb : Ev X b r (.int j)) : Tt X (.Compare a [op] [b] pos) r (p i j) :=
  PTof (pt_cmpR ho ha hb (nobehind b h1 h2)) fun σ H Q ⟨hr, q⟩ => ⟨hr, fun x H1 s1 x1 => ⟨hr.same s1, fun y H2 s2 x2 => ⟨i, j, int_dw (dw_same s2 _ _ x1), int_dw x2, _, rfl, q H2 (s1.trans s2)⟩⟩⟩
theorem tt_lt {i j : Int} (ha : Ev X a r (.int i)) (hb : Ev X b r (.int j)) : Tt X (.Compare a [.Lt] [b] pos) r (decide (i < j)) := tt_cmp op_lt (by decide) (by decide) ha hb
theorem tt_gt {i j : Int} (ha : Ev X a r (.int i)) (hb : Ev X b r (.int j)) : Tt X (.Compare a [.Gt] [b] pos) r (decide (j < i)) := tt_cmp op_gt (by decide) (by decide) ha hb
theorem op_eqI : OpR X (compareOp .Eq) (rI0 fun i j => .bl (decide (i = j))) := opB0 fun _ _ _ _ _ _ _ q => eq_int (by rw [Bool.beq_eq_decide_eq]; exact q)
theorem tt_eq {i j : Int} (ha : Ev X a r (.int i)) (hb : Ev X b r (.int j)) : Tt X (.Compare a [.Eq] [b] pos) r (decide (i = j)) := tt_cmp op_eqI (by decide) (by decide) ha hb
theorem tt_val {v : Bool} (h : Ev X e r (.bool v)) (he : ∀ whole, isTrue e X.env whole = (do let v ← whole; standAt e.pos; holding [v] (truthy v)) := by intro _; rfl) : Tt X e r v :=
  PTof (pt_val h he) fun σ H Q ⟨hr, k⟩ => ⟨hr, fun x H1 s1 x1 => ⟨v, bl_dw x1, k H1 s1⟩⟩
theorem tt_not {v : Bool} (h : Tt X a r v) : Tt X (.UnaryOp .Not a pos) r (!v) := PTof (pt_not h) fun σ H Q ⟨hr, k⟩ => ⟨hr, fun H1 s1 => k H1 s1⟩
theorem tw_and1 {v : Bool} (h : Tt X a r v) : Tw X (.BoolOp .And [a] pos) r v := pw_and1 h
theorem tw_and {v w : Bool} (h : Tt X a r v) (h' : v = true → Tw X (.BoolOp .And (b :: es) pos) r w) : Tw X (.BoolOp .And (a :: b :: es) pos) r (v && w) := by
  cases v with
  | true => exact PWof (pw_and h (h' rfl)) fun σ H Q ⟨hr, k⟩ => ⟨hr, fun H1 s1 => iteT ⟨hr.same s1, fun H2 s2 => k H2 (s1.trans s2)⟩⟩
  | false => exact PWof (pw_and (tB' := fun _ _ _ => False) h (fun _ _ _ _ _ _ _ z => z.elim)) fun σ H Q ⟨hr, k⟩ => ⟨hr, fun H1 s1 => iteF (k H1 s1)⟩
theorem ev_one {op : BoolOp} (h : Ev X a r d) : Ev X (.BoolOp op [a] pos) r d := pe_one h
theorem ev_and {v w : Bool} (h : Ev X a r (.bool v)) (h' : v = true → Ev X (.BoolOp .And (b :: es) pos) r (.bool w)) : Ev X (.BoolOp .And (a :: b :: es) pos) r (.bool (v && w)) := by
  cases v with
  | true => exact PEof (pe_and h (h' rfl)) fun σ H Q ⟨hr, k⟩ => ⟨hr, fun x H1 s1 x1 => ⟨true, bl_dw x1, iteT ⟨hr.same s1, fun y H2 s2 x2 => k y H2 (s1.trans s2) x2⟩⟩⟩
  | false => exact PEof (pe_and (tb := fun _ _ _ => False) h (fun _ _ _ _ _ _ z => z.elim)) fun σ H Q ⟨hr, k⟩ => ⟨hr, fun x H1 s1 x1 => ⟨false, bl_dw x1, iteF (k _ H1 s1 (.bl false))⟩⟩
theorem ev_ifx {v : Bool} (hc : Tt X c r v) (ha : v = true → Ev X a r d) (hb : v = false → Ev X b r d) : Ev X (.IfExp c a b pos) r d := by
  cases v with
  | true => exact PEof (pe_ifExp (tb := fun _ _ _ => False) hc (ha rfl) (fun _ _ _ _ _ _ z => z.elim)) fun σ H Q ⟨hr, k⟩ => ⟨hr, fun H1 s1 => iteT ⟨hr.same s1, fun y H2 s2 x2 => k y H2 (s1.trans s2) x2⟩⟩
  | false => exact PEof (pe_ifExp (ta := fun _ _ _ => False) hc (fun _ _ _ _ _ _ z => z.elim) (hb rfl)) fun σ H Q ⟨hr, k⟩ => ⟨hr, fun H1 s1 => iteF ⟨hr.same s1, fun y H2 s2 x2 => k y H2 (s1.trans s2) x2⟩⟩
theorem eva_nil : EvA X [] r [] := PAof pa_nil fun σ H Q ⟨_, k⟩ => k [] H same_refl .nil
theorem eva_cons (ha : Ev X e r d) (hs : EvA X es r ds) (hst : starEach (e :: es) X.env = (false, eval e X.env) :: starEach es X.env := by rfl) : EvA X (e :: es) r (d :: ds) :=
  PAof (pa_cons ha hs hst) fun σ H Q ⟨hr, k⟩ => ⟨hr, fun x H1 s1 x1 => ⟨hr.same s1, fun xs H2 s2 x2 => k (x :: xs) H2 (s1.trans s2) (.cons (dw_same s2 _ _ x1) x2)⟩⟩
theorem ev_lst (h : EvA X es r ds) (hl : ds.length ≤ sizeLine := by first | (show 1 ≤ sizeLine; decide) | (show 2 ≤ sizeLine; decide) | (show 3 ≤ sizeLine; decide) | (show 4 ≤ sizeLine; decide)) : Ev X (.List es pos) r (.list ds) :=
  PEof (pe_lst h) fun σ H Q ⟨hr, k⟩ => ⟨hr, fun xs H1 s1 x1 => ⟨by rw [dwa_len x1]; exact hl, fun p hp => k _ _ (s1.trans (same_new hp)) (.lst (SqL.of upd_same) (dwa_same (same_new hp) _ _ x1))⟩⟩
theorem at_len {K : PySem.W.Frag} {H : Hp} {vs : List V} {n : Nat} (h : DwAll K H vs ds) (e : ds[n]? = some d) : ∃ v, atI vs (n : Int) = some v ∧ Dw K H v d := by
  obtain ⟨v, a, x⟩ := dwa_get h e
  exact ⟨v, atI_nat a, x⟩
theorem ev_ixT (n : Nat) (ha : Ev X a r (.tuple ds)) (hb : Ev X b r (.int (n : Int))) (h : ds[n]? = some d) (hs : PlainIx b := by exact fun _ _ => rfl) : Ev X (.Subscript a b pos) r d :=
  ev_two (fun x y => pe_ix ix_tup x y hs) ha hb fun H x y Q x1 x2 k => by
    obtain ⟨p, vs, rfl, hq, ha⟩ := tup_dw x1
    obtain ⟨v, e, w⟩ := at_len ha h
    exact ⟨p, vs, n, v, rfl, int_dw x2, hq, e, k v H same_refl w⟩
theorem ev_bi {id : String} {x : Str} {p : Pos} {rr : List V → Hp → VK → Prop} (hc : CallR X (.builtin id) rr) (hm : X.mg x = none) (hv : bootBuiltins x = some (.builtin id)) (ha : EvA X (e :: es) r ds)
    (k : ∀ H vs Q, DwAll X.K H vs ds → (∀ v H', Same H H' → Dw X.K H' v d → Q v H') → rr vs H Q) (hg : Gl X x := by rfl) (hn : x ≠ "__name__" := by decide) (hdb : (x == ("__debug__" : Str)) = false := by decide)
    (hs : starEach (e :: es) X.env = (false, eval e X.env) :: starEach es X.env := by rfl) (hpl : (backTo pos (starEach es X.env)).any (·.1) = false := by rfl) : Ev X (.Call (.Name x p) (e :: es) [] pos) r d :=
  PEof (pe_callB hc hg hm hv ha hn hdb hs hpl) fun σ H Q ⟨hr, q⟩ => ⟨hr, fun vs H1 s1 x1 => k H1 vs Q x1 fun v H2 s2 x2 => q v H2 (s1.trans s2) x2⟩
theorem ev_ty {T : String} {x : Str} {p : Pos} {rr : List V → Hp → VK → Prop} (hc : CallR X (.type T) rr) (hm : X.mg x = none) (hv : bootBuiltins x = some (.type T)) (ha : EvA X (e :: es) r ds)
    (k : ∀ H vs Q, DwAll X.K H vs ds → (∀ v H', Same H H' → Dw X.K H' v d → Q v H') → rr vs H Q) (hg : Gl X x := by rfl) (hn : x ≠ "__name__" := by decide) (hdb : (x == ("__debug__" : Str)) = false := by decide)
    (hs : starEach (e :: es) X.env = (false, eval e X.env) :: starEach es X.env := by rfl) (hpl : (backTo pos (starEach es X.env)).any (·.1) = false := by rfl) : Ev X (.Call (.Name x p) (e :: es) [] pos) r d :=
  PEof (pe_callTy hc hg hm hv ha hn hdb hs hpl) fun σ H Q ⟨hr, q⟩ => ⟨hr, fun vs H1 s1 x1 => k H1 vs Q x1 fun v H2 s2 x2 => q v H2 (s1.trans s2) x2⟩
theorem one_dw {K : PySem.W.Frag} {H : Hp} {vs : List V} (h : DwAll K H vs [d]) : ∃ v, vs = [v] ∧ Dw K H v d := by
  cases h with
  | cons h1 h2 => cases h2; exact ⟨_, rfl, h1⟩
end
def spB (K : PySem.W.Frag) (ok : List WData → WData → Prop) : Sp := fun vs H Q _ => ∃ ds d, DwAll K H vs ds ∧ ok ds d ∧ ∀ v H', Same H H' → Dw K H' v d → Q v H'
structure Fn (P : Program) (w : World) (K : PySem.W.Frag) (mg : Str → Option Value) (base : Heap) (k : Nat) (x : Str) (ok : List WData → WData → Prop) : Prop where
  ex : ∃ f fd ps, mg x = some (.ref f) ∧ PySem.W.keepIn K (.ref f) = true ∧ Binds K fd ps [] ∧ FnOk P w K mg base CX0 k f fd ps (spB K ok)
structure FunAt (K : PySem.W.Frag) (mg : Str → Option Value) (x : Str) (st : Stmt) : Prop where
  ex : ∃ f fd, mg x = some (.ref f) ∧ Fun K x x st f fd
section
variable {X : Cx} {e : Expr} {es : List Expr} {r r' r'' : Rv} {d d' : WData} {ds : List WData} {pos : Pos}
theorem ev_call {kf k : Nat} {x : Str} {p : Pos} {ok : List WData → WData → Prop} (F : Fn X.prog X.w X.K X.mg X.base kf x ok) (hr : Room k X.A) (hk : kf ≤ k) (ha : EvA X (e :: es) r ds) (ho : ok ds d) (hg : Gl X x := by rfl)
    (hdb : (x == ("__debug__" : Str)) = false := by decide) (he : starEach (e :: es) X.env = (false, eval e X.env) :: starEach es X.env := by rfl) (hpl : (backTo pos (starEach es X.env)).any (·.1) = false := by rfl) : Ev X (.Call (.Name x p) (e :: es) [] pos) r d := by
  obtain ⟨f, fd, ps, hm, kp, b, G⟩ := F.ex
  refine PEof (pe_call (E := E0) G (hr.mono hk) hg hm kp b .nil pass0 ha hdb he hpl) fun σ H Q ⟨hr, q⟩ => ⟨hr, fun vs H1 s1 x1 => ?_⟩
  show spB X.K ok (vs ++ []) H1 Q E0
  rw [List.append_nil]
  exact ⟨ds, d, x1, ho, fun v H2 s2 x2 => q v H2 (s1.trans s2) x2⟩
theorem rt_ret {rest : List Stmt} (h : Ev X e r d) : Rt X (.Return (some e) pos :: rest) r d :=
  PSsof (pss_cons (ps_ret h) pss_never) fun D σ H q => q
theorem rt_seq {st : Stmt} {rest : List Stmt} (h : Nx X st r r') (h' : Rt X rest r' d) : Rt X (st :: rest) r d :=
  PSsof (pss_cons h h') fun D σ H ⟨hr, k⟩ => ⟨hr, fun σ1 H1 s1 r1 => ⟨r1, fun v H2 s2 x2 => k v H2 (s1.trans s2) x2⟩⟩
theorem nxs_nil : Nxs X [] r r := PSsof pss_nil fun D σ H ⟨hr, k⟩ => k σ H same_refl hr
theorem nxs_cons {st : Stmt} {rest : List Stmt} (h : Nx X st r r') (h' : Nxs X rest r' r'') : Nxs X (st :: rest) r r'' :=
  PSsof (pss_cons h h') fun D σ H ⟨hr, k⟩ => ⟨hr, fun σ1 H1 s1 r1 => ⟨r1, fun σ2 H2 s2 r2 => k σ2 H2 (s1.trans s2) r2⟩⟩
theorem rt_if {c : Expr} {body rest : List Stmt} {v : Bool} (hc : Tt X c r v) (h1 : v = true → Rt X body r d) (h2 : v = false → Rt X rest r d) : Rt X (.If c body [] pos :: rest) r d := by
  cases v with
  | true => exact PSsof (pss_cons (ps_if hc (h1 rfl) pss_never) pss_never) fun D σ H ⟨hr, k⟩ => ⟨hr, fun H1 s1 => iteT ⟨hr.same s1, fun v H2 s2 x2 => k v H2 (s1.trans s2) x2⟩⟩
  | false => exact PSsof (pss_cons (ps_if hc pss_never pss_nil) (h2 rfl)) fun D σ H ⟨hr, k⟩ => ⟨hr, fun H1 s1 => iteF ⟨hr.same s1, fun v H2 s2 x2 => k v H2 (s1.trans s2) x2⟩⟩
theorem nx_set (i : Nat) {x : Str} {p : Pos} (he : Ev X e r d) (hN : X.N.Nodup) (hi : X.N[i]? = some x := by rfl) (hx : Loc X.env.scope x := by first | exact Or.inl rfl | exact Or.inr rfl)
    (hs : swapsWith e (some (.Name x p)) pos.line X.env = pure false := by rfl) (hf : X.fn x = true ∨ X.env.scope.names.lookup x = some .local := by first | exact .inl rfl | exact .inr rfl) : Nx X (.Assign [.Name x p] e pos) r (r.set i (some d)) :=
  PSof (ps_set hN hi hx he hs hf) fun D σ H ⟨hr, k⟩ => ⟨hr, fun v H1 s1 x1 => k _ H1 s1 ((hr.same s1).set x1)⟩
end
theorem fnok_of_body {P : Program} {w : World} {K : PySem.W.Frag} {mg : Str → Option Value} {base : Heap} {x : Str} {st : Stmt} {f : Addr} {fd : FuncData} {N ps : List Str} {k : Nat} {ok : List WData → WData → Prop} (F : Fun K x x st f fd) (S : FnScope N ps (defScope st))
    (len : ∀ ds d, ok ds d → ds.length = ps.length)
    (body : ∀ (f : Addr) (cdv : Value) (A : Around) (outer : List Env) (s : Shared) (H : Hp) (E : XK), Room k (A.deeper (envOfC x (defScope st) s.heap.objs.size f cdv)) → ∀ ds d, ok ds d →
      Rt (cxOf CX0 P w K mg base N x (defScope st) f cdv A outer s H E).nox (defBody st) (ds.map some ++ List.replicate (N.length - ds.length) none) d) : FnOk P w K mg base CX0 (k + 1) f fd ps (spB K ok) := by
  refine F.ok S (fun vs H Q E h => ?_) (fun cdv A outer s H vs Q E hr h => ?_)
  · obtain ⟨ds, d, h1, h2, _⟩ := h
    rw [dwa_len h1]; exact len ds d h2
  · obtain ⟨ds, d, h1, h2, h3⟩ := h
    exact ⟨_, body f cdv A outer s H E hr ds d h2, Rho.start h1, h3⟩
theorem fn_of_body {P : Program} {w : World} {K : PySem.W.Frag} {mg : Str → Option Value} {base : Heap} {x : Str} {st : Stmt} {N ps : List Str} {k : Nat} {ok : List WData → WData → Prop} (F : FunAt K mg x st) (S : FnScope N ps (defScope st))
    (hb : ∀ (kV doc pm : Value) (an : Option Addr) (cdv ct : Value) (us : List Value), us.length = ps.length → bindArgs (PySem.W.fnOf x x (defArgs st) (defBody st) (defScope st) .none kV doc pm an cdv ct) ⟨us, []⟩ = pure (ps.zip us))
    (len : ∀ ds d, ok ds d → ds.length = ps.length)
    (body : ∀ (f : Addr) (cdv : Value) (A : Around) (outer : List Env) (s : Shared) (H : Hp) (E : XK), Room k (A.deeper (envOfC x (defScope st) s.heap.objs.size f cdv)) → ∀ ds d, ok ds d →
      Rt (cxOf CX0 P w K mg base N x (defScope st) f cdv A outer s H E).nox (defBody st) (ds.map some ++ List.replicate (N.length - ds.length) none) d) : Fn P w K mg base (k + 1) x ok := by
  obtain ⟨f, fd, hm, F⟩ := F.ex
  exact ⟨f, fd, ps, hm, F.kp, F.binds hb, fnok_of_body F S len body⟩
end B

end
section
set_option Elab.async false
set_option linter.all false
set_option maxRecDepth 100000
set_option maxHeartbeats 2000000
namespace B
open PySem PySem.Spec PyProof.Rows L2
open PySem.W (WData)
def SqB (q : Bool) (K : PySem.W.Frag) (H : Hp) (a : Addr) (xs : List V) : Prop := if q = true then SqL K H a xs else SqT K H a xs
theorem SqB.same {q : Bool} {K : PySem.W.Frag} {H H' : Hp} {a : Addr} {xs : List V} (h : SqB q K H a xs) (e : Same H H') : SqB q K H' a xs := by
  cases q with
  | true => exact e.seq (show SqL K H a xs from h)
  | false => exact same_tup e (show SqT K H a xs from h)
def SrcOk (K : PySem.W.Frag) (J : It) (H1 : Hp) (rows : List WData) : Prop :=
  (∀ (i : Nat) (d : WData) (H' : Hp), Same H1 H' → rows[i]? = some d → J.go i H' ∧ ∀ x H'', J.yld i H' x H'' → Same H' H'' ∧ Dw K H'' x d) ∧ ∀ H', Same H1 H' → J.stop rows.length H'
def tSrc (K : PySem.W.Frag) (r : Rv) (rows : List WData) : TI := fun σ H R => Rho K H σ r ∧ ∀ J H1, Same H H1 → SrcOk K J H1 rows → R J H1
abbrev Src (X : Cx) (tg it : Expr) (r : Rv) (rows : List WData) : Prop := PI X tg it (tSrc X.K r rows)
section
variable {X : Cx} {tg l e e2 : Expr} {r : Rv} {ds es : List WData}
theorem PIof {it : Expr} {wi wi' : TI} (h : PI X tg it wi) (k : ∀ σ H R, wi' σ H R → wi σ H R) : PI X tg it wi' := fun pins s σ H R I q => h pins s σ H R I (k σ H R q)
end
theorem flats_get : ∀ {ds : List WData} {i : Nat} {d : WData}, flats ds = true → ds[i]? = some d → flat d = true
  | [], _, _, _, e => by simp at e
  | a :: ds, 0, d, f, e => by
    have e : a = d := Option.some.inj e
    subst e
    exact (Bool.and_eq_true_iff.mp f).1
  | a :: ds, i + 1, d, f, e => flats_get (i := i) (Bool.and_eq_true_iff.mp f).2 e
theorem flats_take : ∀ {ds : List WData} (i : Nat), flats ds = true → flats (ds.take i) = true
  | [], i, _ => by rw [List.take_nil]; rfl
  | a :: ds, 0, _ => rfl
  | a :: ds, i + 1, f => Bool.and_eq_true_iff.mpr ⟨(Bool.and_eq_true_iff.mp f).1, flats_take i (Bool.and_eq_true_iff.mp f).2⟩
theorem take_more {α : Type} : ∀ {l : List α} {i : Nat} {x : α}, l[i]? = some x → l.take (i + 1) = l.take i ++ [x]
  | [], _, _, h => by simp at h
  | a :: l, 0, x, h => by
    have e : a = x := Option.some.inj h
    subst e
    rfl
  | a :: l, i + 1, x, h => congrArg (a :: ·) (take_more (l := l) (i := i) h)
section
variable {X : Cx} {elt tg iter : Expr} {r : Rv} {rows ds : List WData} {scope : Scope} {own : List (Str × Nat)} {pos : Pos}
def tTake (K : PySem.W.Frag) (vs : List Nat) (g : TG) (r : Rv) (d : WData) (r2 : Rv) : Prop :=
  ∀ (σ : L2.St) (H H' : Hp) (x : V) (Q : L2.St → Hp → Prop), Rho K H σ r → Same H H' → Dw K H' x d → (∀ σ2, wipe σ2 vs = wipe σ vs → Rho K H' σ2 r2 → Q σ2 H') → g x (wipe σ vs) H' Q
theorem lc_w {g : TG} (r2 : Nat → Rv) (hl : rows.length = ds.length) (hz : ds.length ≤ sizeLine) (hf : flats ds = true) {K : PySem.W.Frag}
    (hk : ∀ i d, rows[i]? = some d → tTake K (own.map (·.2)) g r d (r2 i)) (σ : L2.St) (H : Hp) (Q : VK) (h : tEv K r (.list ds) σ H Q) :
    tLc (tSrc K r rows) g tYes (fun σ H Q => ∃ i d e, rows[i]? = some d ∧ ds[i]? = some e ∧ tEv K (r2 i) e σ H Q) (own.map (·.2)) σ H Q := by
  obtain ⟨hr, k⟩ := h
  refine ⟨hr, fun J H1 s1 so D hD => ?_⟩
  refine ⟨fun i m H' => m = ds.length - i ∧ i ≤ ds.length ∧ Same H1 H' ∧ ∃ acc, H' D = some (.lst acc) ∧ DwAll K H' acc (ds.take i), ⟨_, rfl, Nat.zero_le _, same_new hD, [], upd_same, .nil⟩, ?_⟩
  rintro i m H2 ⟨rfl, hi, s2, acc, hA, hw⟩
  by_cases hlt : i < ds.length
  · obtain ⟨d, hd⟩ : ∃ d, rows[i]? = some d := ⟨_, List.getElem?_eq_getElem (by omega)⟩
    obtain ⟨e, he'⟩ : ∃ e, ds[i]? = some e := ⟨_, List.getElem?_eq_getElem hlt⟩
    obtain ⟨go, yl⟩ := so.1 i d H2 s2 hd
    refine .inr ⟨go, fun H' => Same H1 H' ∧ ∃ acc, H' D = some (.lst acc) ∧ DwAll K H' acc (ds.take (i + 1)), fun H' ⟨a, b⟩ => ⟨_, by omega, rfl, hlt, a, b⟩, fun x H3 y => ?_⟩
    obtain ⟨s3, xw⟩ := yl x H3 y
    refine hk i d hd σ H2 H3 x _ (hr.same (s1.trans s2)) s3 xw fun σ2 hw2 hr2 => ⟨hw2, ?_⟩
    unfold tYes
    refine iteT ⟨i, d, e, hd, he', hr2, fun y H4 s4 yw => ?_⟩
    have hA4 : H4 D = some (.lst acc) := s4 _ _ (s3 _ _ hA)
    have ln := dwa_len hw
    refine ⟨acc, hA4, by rw [ln, List.length_take]; omega, fun b o q => ?_, acc ++ [y], upd_same, ?_⟩
    · rw [upd_ne (ne_of_none q hD)]
      exact s4 _ _ (s3 _ _ (s2 _ _ q))
    · rw [take_more he']
      exact dwa_snoc (dw_upd hA4 _ _ (flats_get hf he') yw) (dwa_upd hA4 _ _ (flats_take i hf) (dwa_same (s3.trans s4) _ _ hw))
  · have e : i = ds.length := by omega
    subst e
    rw [List.take_length] at hw
    refine .inl ⟨?_, k _ H2 (s1.trans s2) (.lst (SqL.of hA) hw)⟩
    rw [← hl]
    exact so.2 H2 s2
structure LcOk (X : Cx) (tg elt : Expr) (scope : Scope) (own : List (Str × Nat)) (g : TG) (r : Rv) (rows ds : List WData) (r2 : Nat → Rv) : Prop where
  hl : rows.length = ds.length
  hz : ds.length ≤ sizeLine
  hf : flats ds = true
  hc : X.calm = true
  hN : X.N.Nodup
  ok : BlkOk X.N X.env.scope scope own
  hg : ∀ (s : Shared) (H : Hp) (C : Addr) (cl : List (Str × Addr)) (fp : List Addr), PG (X.blk s H scope (compEnvC scope cl C X.env) fp) tg g
  hk : ∀ i d, rows[i]? = some d → tTake X.K (own.map (·.2)) g r d (r2 i)
  he : ∀ (s : Shared) (H : Hp) (C : Addr) (cl : List (Str × Addr)) (fp : List Addr) (i : Nat) (d e : WData), rows[i]? = some d → ds[i]? = some e → Ev (X.blk s H scope (compEnvC scope cl C X.env) fp) elt (r2 i) e
theorem ev_lc {g : TG} {r2 : Nat → Rv} (hsrc : Src X tg iter r rows) (L : LcOk X tg elt scope own g r rows ds r2)
    (hs : ∀ x, foldedSetIterable iter X.env x = pure x := by intro _; rfl) : Ev X (.ListComp elt [⟨tg, iter, [], 0⟩] scope pos) r (.list ds) :=
  PEof (pe_lc (te := fun σ H Q => ∃ i d e, rows[i]? = some d ∧ ds[i]? = some e ∧ tEv X.K (r2 i) e σ H Q) L.hc L.hN hsrc L.ok L.hg (fun _ _ _ _ _ => pts_nil)
    (fun s H C cl fp pins s' σ H' Q I ⟨i, d, e, h1, h2, h3⟩ => L.he s H C cl fp i d e h1 h2 pins s' σ H' Q I h3) hs) fun σ H Q h => lc_w r2 L.hl L.hz L.hf L.hk σ H Q h
theorem take_name (i : Nat) {d : WData} {K : PySem.W.Frag} : tTake K [i] (gName i) r d ((r.set i none).set i (some d)) := fun σ H H' x Q hr s xw q => by
  refine q _ ?_ ?_
  · show (((σ.set i none).set i (some x)).set i none) = σ.set i none
    rw [List.set_set, List.set_set]
  · have hr2 : Rho K H' (σ.set i none) (r.set i none) := by
      have hr := hr.same s
      refine ⟨by rw [List.length_set, List.length_set]; exact hr.len, fun j d' e => ?_⟩
      by_cases hj : i = j
      · subst hj
        by_cases hl : i < r.length
        · rw [List.getElem?_set_self hl] at e; cases e
        · rw [List.getElem?_eq_none (by rw [List.length_set]; omega)] at e; cases e
      · rw [List.getElem?_set_ne hj] at e
        obtain ⟨v, a, b⟩ := hr.at_ j d' e
        exact ⟨v, by rw [List.getElem?_set_ne hj]; exact a, b⟩
    exact hr2.set xw
end
section
variable {X : Cx} {e a b : Expr} {r : Rv} {d : WData} {pos : Pos}
theorem ev_abs {p : Pos} {i : Int} (hm : X.mg "abs" = none) (ha : Ev X e r (.int i)) (hg : Gl X "abs" := by rfl) (hs1 : starEach [e] X.env = (false, eval e X.env) :: starEach [] X.env := by rfl) :
    Ev X (.Call (.Name "abs" p) [e] [] pos) r (.int (if i < 0 then -i else i)) :=
  ev_bi call_abs hm (by decide +kernel) (eva_cons ha eva_nil hs1) (fun H vs Q x k => by
    obtain ⟨v, rfl, xv⟩ := one_dw x
    exact ⟨i, by rw [int_dw xv], k _ H same_refl (.int _)⟩) hg (by decide) (by decide) hs1 rfl
def rCatS (K : PySem.W.Frag) : R2 := fun x y H Q => ∃ l b xs zs, x = .ref l ∧ y = .ref b ∧ SqL K H l xs ∧ SqL K H b zs ∧ xs.length + zs.length ≤ sizeLine ∧ ∀ p, H p = none → Q (.ref p) (upd H p (.lst (xs ++ zs)))
theorem op_catS : OpR X (binaryOp .Add) (rCatS X.K) := by
  intro pins s σ H x y v u Q I rx ry h
  obtain ⟨l, b, xs, zs, rfl, rfl, hA, hB, hz, q⟩ := h
  cases rx
  cases ry
  obtain ⟨its, r1, p1, _⟩ := I.list hA
  obtain ⟨its2, r2, p2, _⟩ := I.list hB
  have l1 := r1.length
  have l2 := r2.length
  obtain ⟨⟨cls, dd, data, sl⟩, ho, hc, n, hd⟩ := p1.isList
  obtain ⟨⟨cls2, dd2, data2, sl2⟩, ho2, hc2, n2, hd2⟩ := p2.isList
  simp only at hc hd hc2 hd2
  subst hc hd hc2 hd2
  have e : its.toArray ++ its2.toArray = (its ++ its2).toArray := by simp
  refine concat_meets ⟨_, ho, rfl⟩ ⟨_, ho2, rfl⟩ noFill_list_add seq_list_add PySem.F.slot_list_add PySem.F.entry_list_add (PySem.F.args_list_add_2 _ _) (list_addW l b its.toArray its2.toArray n n2 dd dd2 sl sl2 (by rw [List.size_toArray, List.size_toArray]; omega)) ⟨ho, ho2, ?_⟩
  rw [e]
  exact ⟨.ref _, _, I.lnew (t' := s.toks) (r1.append r2) (by rw [List.length_append]; omega), rfl, q _ I.fresh⟩
theorem ev_cat {ds es : List WData} (ha : Ev X a r (.list ds)) (hb : Ev X b r (.list es)) (hl : ds.length + es.length ≤ sizeLine) : Ev X (.BinOp a .Add b pos) r (.list (ds ++ es)) :=
  ev_two (fun h1 h2 => pe_op op_catS h1 h2) ha hb fun H x y Q h1 h2 k => by
    obtain ⟨p, vs, rfl, hq, hw⟩ := lst_dw h1
    obtain ⟨p2, vs2, rfl, hq2, hw2⟩ := lst_dw h2
    exact ⟨p, p2, vs, vs2, rfl, rfl, hq, hq2, by rw [dwa_len hw, dwa_len hw2]; exact hl, fun c hc => k _ _ (same_new hc) (.lst (SqL.of upd_same) (dwa_append (dwa_same (same_new hc) _ _ hw2) (dwa_same (same_new hc) _ _ hw)))⟩
end
end B

end
section
set_option Elab.async false
set_option linter.all false
set_option maxRecDepth 100000
set_option maxHeartbeats 2000000
namespace B
open PySem PySem.Spec PyProof.Rows L2
open PySem.W (WData)
section
variable {X : Cx} {c iter : Expr} {body : List Stmt} {r : Rv} {pos : Pos} {rows : List WData}
theorem nx_while (st : Int → Rv) (In : Int → Prop) (tv : Int → Bool) (f : Int → Int) (m : Int → Nat) (n0 : Int) (hp : PassesOwn (model X.prog X.w) X.A X.env X.xe)
    (hc : ∀ n, In n → Tt X c (st n) (tv n)) (hb : ∀ n, In n → tv n = true → Nxs X body (st n) (st (f n))) (hs : ∀ n, In n → tv n = true → In (f n) ∧ m (f n) < m n) (h0 : In n0)
    (hend : ∀ n, In n → tv n = false → st n = r) : Nx X (.While c body [] pos) (st n0) r := by
  refine PSof (ps_while (tc := fun σ H Q => ∃ n, In n ∧ tTs X.K (st n) (tv n) σ H Q) (tb := fun D σ H => ∃ n, In n ∧ tv n = true ∧ tNxt X.K (st n) (st (f n)) D σ H) hp
    (fun pins s σ H Q I ⟨n, h, q⟩ => hc n h pins s σ H Q I q) (fun pins s σ H D I ⟨n, h, h', q⟩ => hb n h h' pins s σ H D I q)) fun D σ H ⟨hr, k⟩ => ?_
  refine ⟨fun q σ' H' => ∃ n, In n ∧ q = m n ∧ Rho X.K H' σ' (st n) ∧ Same H H', ⟨_, n0, h0, rfl, hr, same_refl⟩, ?_⟩
  rintro q σ1 H1 ⟨n, hn, rfl, r1, s1⟩
  refine ⟨n, hn, r1, fun H2 s2 => ?_⟩
  cases e : tv n with
  | true =>
    refine iteT ⟨fun σ' H' => Rho X.K H' σ' (st (f n)) ∧ Same H H', fun σ' H' ⟨a, b⟩ => ⟨_, (hs n hn e).2, f n, (hs n hn e).1, rfl, a, b⟩, n, hn, e, r1.same s2, fun σ3 H3 s3 r3 => ⟨r3, (s1.trans s2).trans s3⟩⟩
  | false =>
    refine iteF (k σ1 H2 (s1.trans s2) ?_)
    rw [← hend n hn e]
    exact r1.same s2
end
end B

end
section
set_option Elab.async false
set_option linter.all false
set_option maxRecDepth 100000
set_option maxHeartbeats 2000000
namespace B
open PySem PySem.Spec PyProof.Rows L2
open PySem.W (WData)
open My Pipe
abbrev wN (l : List Int) : WData := .list (l.map WData.int)
theorem sm {n : Nat} {i : Int} (h : Sz n i) (hn : n ≤ 1000) : Sm i := sz_mono h hn
theorem sm2 : Sm 2 := sm (sz_two (Nat.le_refl 2)) (by decide)
structure Bl (mg : Str → Option Value) : Prop where
  abs : mg "abs" = none
  zip : mg "zip" = none
  sum : mg "sum" = none
  all : mg "all" = none
  tuple : mg "tuple" = none
  len : mg "len" = none
abbrev Ok := List WData → WData → Prop
def okLmb : Ok := fun ds d => ∃ a : L2I, ds = [.int a.1, .int a.2] ∧ d = .bool (lmb a)
abbrev w3 (a : Int × Int × Int) : WData := .list [.int a.1, .int a.2.1, .int a.2.2]
end B

end
section
set_option Elab.async false
set_option linter.all false
set_option maxRecDepth 100000
set_option maxHeartbeats 2000000
namespace B
open PySem PySem.Spec PyProof.Rows L2
open PySem.W (WData Codec)
open My Pipe
theorem funAt_mk {K : PySem.W.Frag} {h : Heap} {mg : Str → Option Value} {x : Str} {st : Stmt} {f : Addr} {oc : Value} {od an : Option Addr} {osl : Array (Option Value)} {kV doc pm cdv ct : Value} (X : K.In h) (G : h.Ns mainGlobals mg)
    (a : PySem.W.nsIn K mainGlobals x = some (some (.ref f))) (l : K.lookup f = some ⟨oc, od, .func (PySem.W.fnOf x x (defArgs st) (defBody st) (defScope st) .none kV doc pm an cdv ct), osl⟩) (c : PySem.W.codeIn K cdv x = true) (k : PySem.W.keepIn K (.ref f) = true) : FunAt K mg x st :=
  ⟨f, _, PySem.W.mg_of X G a, fun_mk l c k⟩
theorem top_mk {P : Program} {w : World} {K : PySem.W.Frag} {h : Heap} {mg : Str → Option Value} {x : Str} {st : Stmt} {fa f : Addr} {oc : Value} {od an : Option Addr} {osl : Array (Option Value)} {kV doc pm cdv ct : Value} {ps : List Str} {sp : Sp} {k : Nat} (X : K.In h) (G : h.Ns mainGlobals mg)
    (hfa : mg x = some (.ref fa)) (a : PySem.W.nsIn K mainGlobals x = some (some (.ref f))) (l : K.lookup f = some ⟨oc, od, .func (PySem.W.fnOf x x (defArgs st) (defBody st) (defScope st) .none kV doc pm an cdv ct), osl⟩) (c : PySem.W.codeIn K cdv x = true) (kp : PySem.W.keepIn K (.ref f) = true)
    (hb : ∀ (us : List Value), us.length = ps.length → bindArgs (PySem.W.fnOf x x (defArgs st) (defBody st) (defScope st) .none kV doc pm an cdv ct) ⟨us, []⟩ = pure (ps.zip us))
    (main : ∀ base : Heap, K.In base → base.Ns mainGlobals mg → ∀ fd, Fun K x x st f fd → FnOk P w K mg base CX0 k f fd ps sp) :
    ∃ fd : FuncData, (∀ (s : Shared) (us : List Value), us.length = ps.length → BindsTo s fd ⟨us, []⟩ (ps.zip us)) ∧ ∀ base : Heap, K.In base → base.Ns mainGlobals mg → FnOk P w K mg base CX0 k fa fd ps sp := by
  have e := hfa.symm.trans (PySem.W.mg_of X G a)
  cases e
  exact ⟨_, fun s us hu => .of_eq (hb us hu), fun base kb nb => main base kb nb _ (fun_mk l c kp)⟩
theorem glo_int {K : PySem.W.Frag} {h : Heap} {mg : Str → Option Value} {x : Str} {i : Int} {t : Tok} (X : K.In h) (G : h.Ns mainGlobals mg) (a : PySem.W.nsIn K mainGlobals x = some (some (.int i t))) : Glo K mg x (.int i) :=
  ⟨_, .int i, PySem.W.mg_of X G a, ⟨t, rfl⟩, fun H => .int i⟩
end B

end
section
set_option Elab.async false
set_option linter.all false
set_option maxRecDepth 100000
set_option maxHeartbeats 2000000
namespace B
open PySem PySem.Spec PyProof.Rows L2
open PySem.W (WData Codec)
open My Pipe
def okRoots : Ok := fun ds d => ∃ q : Int, ds = [.int q] ∧ d = .int (rootI q) ∧ 0 ≤ q ∧ Sz 300 q
def okFloor : Ok := fun ds d => ∃ p q : Int, ds = [.int p, .int q] ∧ d = .int (floorP p q) ∧ Sz 300 p ∧ Sz 300 q
def okDown : Ok := fun ds d => ∃ p q u : Int, ds = [.int p, .int q, .int u] ∧ d = .int (downP p q u) ∧ Sz 300 p ∧ Sz 300 q ∧ 0 < u ∧ Sz 300 u
def okNear : Ok := fun ds d => ∃ p q u : Int, ds = [.int p, .int q, .int u] ∧ d = .int (nearP p q u) ∧ Sz 200 p ∧ Sz 200 q ∧ 0 < u ∧ Sz 200 u
structure RootOn (q g : Int) : Prop where
  nn : 0 ≤ g
  ab : ∀ r : Int, r * r ≤ 2 * q * q → r ≤ g
  sz : g ≤ 2 * q
theorem sqi (a : Int) : 0 ≤ a * a := isq a
theorem two_sq (q : Int) : 0 ≤ 2 * q * q := by
  have := sqi q
  rw [Int.mul_assoc]; omega
theorem root_start {q : Int} (h : 0 ≤ q) : RootOn q (2 * q) := by
  refine ⟨by omega, fun r hr => ?_, Int.le_refl _⟩
  apply Int.not_lt.mp
  intro hlt
  have h1 : (2 * q + 1) * (2 * q + 1) ≤ r * r := Int.mul_self_le_mul_self (by omega) (by omega)
  have e : (2 * q + 1) * (2 * q + 1) = 4 * (q * q) + 4 * q + 1 := by grind
  rw [Int.mul_assoc] at hr
  have := sqi q
  omega
theorem root_pos {q g : Int} (h : RootOn q g) (ht : 2 * q * q < g * g) : 0 < g := by
  rcases (by have := h.nn; omega : g = 0 ∨ 0 < g) with e | e
  · subst e
    have := two_sq q
    omega
  · exact e
theorem root_step {q g : Int} (h : RootOn q g) (ht : 2 * q * q < g * g) : RootOn q ((g + 2 * q * q / g) / 2) ∧ ((g + 2 * q * q / g) / 2).toNat < g.toNat := by
  have hg := root_pos h ht
  have hlt : (g + 2 * q * q / g) / 2 < g := by
    apply Int.not_le.mp
    intro hle
    have := newton_le (2 * q * q) g hg hle
    omega
  have h0 := newton_ge (2 * q * q) g 0 hg (by have := two_sq q; omega)
  exact ⟨⟨h0, fun r hr => newton_ge _ g r hg hr, by have := h.sz; omega⟩, by omega⟩
theorem root_end {q g : Int} (h : RootOn q g) (ht : ¬ 2 * q * q < g * g) : rootI q = g := rootI_of q g h.nn (by omega) h.ab
theorem root_sz {q g : Int} (h : RootOn q g) (hq : 0 ≤ q) (hs : Sz 300 q) : Sz 302 g := by
  have h2 : Sz 302 (2 * q) := sz_mul (n := 2) (sz_two (by decide)) hs (by decide)
  have := h.nn
  have := h.sz
  unfold Sz at *
  omega
theorem lmb_sz {p q : Int} (h : ¬ lmb (p, q) = false) : Sz 41 p ∧ Sz 41 q := sz_lmb (a := (p, q)) (by rw [Bool.not_eq_false] at h; exact h)
theorem sz2000 {n : Nat} (h : 11 ≤ n) : Sz n 2000 := sz_mono (n := 11) (by unfold Sz; decide) h
end B

end
section
set_option Elab.async false
set_option linter.all false
set_option maxRecDepth 100000
set_option maxHeartbeats 2000000
namespace B
open PySem PySem.Spec PyProof.Rows L2
open PySem.W (WData Codec)
open My Pipe
structure Bs (mg : Str → Option Value) : Prop where
  str : mg "str" = none
  ord : mg "ord" = none
def codes (l : List UInt8) : Str := ⟨(l.map UInt8.toNat).toArray⟩
theorem str_ext {x y : Str} (h : x.cps.toList = y.cps.toList) : x = y := by
  cases x; cases y
  congr
  exact Array.toList_inj.mp h
theorem codes_list (l : List UInt8) : (codes l).cps.toList = l.map UInt8.toNat := by unfold codes; simp
theorem codes_len (l : List UInt8) : (codes l).length = l.length := by
  show (codes l).cps.size = _
  unfold codes; simp
theorem codes_app (a b : List UInt8) : codes a ++ codes b = codes (a ++ b) := by
  apply str_ext
  show ((codes a).cps ++ (codes b).cps).toList = _
  rw [codes_list]
  simp [codes]
theorem byte_of (c : Char) (h : c.isDigit = true) : c.toNat = (UInt8.ofNat c.toNat).toNat := by
  have h1 : c.toNat ≤ 57 := by
    unfold Char.isDigit at h
    simp only [Bool.and_eq_true, decide_eq_true_eq] at h
    exact h.2
  rw [UInt8.toNat_ofNat']
  omega
theorem str_dig (n : Nat) : (toString (n : Int) : Str) = codes (dig n) := by
  apply str_ext
  rw [codes_list]
  show (Str.ofString (toString (n : Int))).cps.toList = _
  rw [signs_ofString]
  have e : (toString (n : Int)).toList = Nat.toDigits 10 n := by
    show (Nat.repr n).toList = _
    unfold Nat.repr
    simp
  rw [e]
  unfold dig
  rw [List.map_map]
  apply List.map_congr_left
  intro c hc
  exact byte_of c (Nat.isDigit_of_mem_toDigits (by decide) (by decide) hc)
theorem dig_head (n : Nat) : ∃ c l, dig n = c :: l ∧ c.toNat ≠ 43 ∧ c.toNat ≠ 45 := by
  cases e : dig n with
  | nil => have := dig_pos n; rw [e] at this; cases this
  | cons c l =>
    refine ⟨c, l, rfl, ?_⟩
    have hm : c ∈ dig n := by rw [e]; exact List.mem_cons_self
    unfold dig at hm
    obtain ⟨x, hx, rfl⟩ := List.mem_map.mp hm
    have hd := Nat.isDigit_of_mem_toDigits (by decide) (by decide) hx
    have h0 := byte_of x hd
    unfold Char.isDigit at hd
    simp only [Bool.and_eq_true, decide_eq_true_eq] at hd
    have h1 : 48 ≤ x.toNat := hd.1
    show (UInt8.ofNat x.toNat).toNat ≠ 43 ∧ (UInt8.ofNat x.toNat).toNat ≠ 45
    omega
theorem zfill_dig (n s : Nat) : Txt.zfill (codes (dig n)) ((s : Int) + 1) = codes (padd n (s + 1)) := by
  unfold Txt.zfill
  rw [codes_len]
  by_cases h : (s : Int) + 1 ≤ ((dig n).length : Nat)
  · rw [if_pos h]
    unfold padd
    rw [(by omega : s + 1 - (dig n).length = 0)]
    rfl
  · rw [if_neg h]
    obtain ⟨c, l, e, h1, h2⟩ := dig_head n
    have e0 : (codes (dig n)).cps[0]? = some c.toNat := by rw [e]; rfl
    have hz : PySem.zfilled (codes (dig n)) (((s : Int) + 1).toNat - (dig n).length) = Builtin.Str.padded (codes (dig n)) (((s : Int) + 1).toNat - (dig n).length) 0 48 := by
      unfold PySem.zfilled
      rw [e0]
      split
      · rename_i h; exact absurd (Option.some.inj h) h1
      · rename_i h; exact absurd (Option.some.inj h) h2
      · rfl
    rw [hz]
    apply str_ext
    rw [codes_list]
    unfold padd Builtin.Str.padded
    rw [(by omega : ((s : Int) + 1).toNat = s + 1)]
    simp [codes]

theorem dig_len : ∀ k n, n < 10 ^ (k + 1) → (dig n).length ≤ k + 1
  | 0, n, h => by rw [dig_small n (by simpa using h)]; exact Nat.le_refl _
  | k + 1, n, h => by
    by_cases c : n < 10
    · rw [dig_small n c]; show 1 ≤ _; omega
    · rw [dig_step n (by omega), List.length_append]
      have := dig_len k (n / 10) (by rw [Nat.pow_succ] at h; omega)
      show _ + 1 ≤ _
      omega
theorem dig_len300 {n : Nat} (h : n < 2 ^ 310) : (dig n).length ≤ 100 := dig_len 99 n (Nat.lt_trans h (by decide +kernel))
theorem cut_front (a b : List UInt8) (s : Nat) (hs : 0 < s) (hb : b.length = s) : cutS (codes (a ++ b)) none (some (-(s : Int))) = codes a := by
  apply str_ext
  unfold cutS
  rw [codes_len, codes_list, codes_list]
  show (List.take (HT.sIx (a ++ b).length (a ++ b).length (some (-(s : Int))) - 0) (List.drop 0 (List.map UInt8.toNat (a ++ b)))).toArray.toList = _
  have e : HT.sIx (a ++ b).length (a ++ b).length (some (-(s : Int))) = a.length := by
    unfold HT.sIx
    dsimp only
    rw [if_pos (by omega), List.length_append]
    omega
  rw [e]
  simp
theorem cut_back (a b : List UInt8) (s : Nat) (hs : 0 < s) (hb : b.length = s) : cutS (codes (a ++ b)) (some (-(s : Int))) none = codes b := by
  apply str_ext
  unfold cutS
  rw [codes_len, codes_list, codes_list]
  have e : HT.sIx (a ++ b).length 0 (some (-(s : Int))) = a.length := by
    unfold HT.sIx
    dsimp only
    rw [if_pos (by omega), List.length_append]
    omega
  rw [e]
  have e2 : HT.sIx (a ++ b).length (a ++ b).length none = (a ++ b).length := rfl
  rw [e2]
  simp
  rw [List.take_of_length_le (by simp)]
section
variable {X : Cx} {e a b : Expr} {r : Rv} {d : WData} {pos : Pos}
theorem ev_strI {p : Pos} {i : Int} (hm : X.mg "str" = none) (hi : Sz 310 i) (ha : Ev X e r (.int i)) (hg : Gl X "str" := by rfl) (hs1 : starEach [e] X.env = (false, eval e X.env) :: starEach [] X.env := by rfl) :
    Ev X (.Call (.Name "str" p) [e] [] pos) r (.str (toString i)) :=
  ev_ty call_str_int hm (by decide +kernel) (eva_cons ha eva_nil hs1) (fun H vs Q x k => by
    obtain ⟨v, rfl, xv⟩ := one_dw x
    refine ⟨i, by rw [int_dw xv], ?_, k _ H same_refl (.str _)⟩
    by_cases c : i.natAbs = 0
    · rw [c]; decide
    · exact Nat.lt_trans ((Nat.log2_lt c).mpr hi) (by decide)) hg (by decide) (by decide) hs1 rfl
theorem ev_ord {p : Pos} {c : Nat} (hm : X.mg "ord" = none) (ha : Ev X e r (.str ⟨#[c]⟩)) (hg : Gl X "ord" := by rfl) (hs1 : starEach [e] X.env = (false, eval e X.env) :: starEach [] X.env := by rfl) :
    Ev X (.Call (.Name "ord" p) [e] [] pos) r (.int (c : Int)) :=
  ev_bi call_ord hm (by decide +kernel) (eva_cons ha eva_nil hs1) (fun H vs Q x k => by
    obtain ⟨v, rfl, xv⟩ := one_dw x
    exact ⟨⟨#[c]⟩, by rw [str_dw xv], rfl, k _ H same_refl (.int _)⟩) hg (by decide) (by decide) hs1 rfl
theorem ev_catS {x y : Str} (ha : Ev X a r (.str x)) (hb : Ev X b r (.str y)) (hl : x.length + y.length ≤ sizeLine) : Ev X (.BinOp a .Add b pos) r (.str (x ++ y)) :=
  ev_two (fun h1 h2 => pe_op op_add_str h1 h2) ha hb fun H u v Q h1 h2 k => ⟨x, y, str_dw h1, str_dw h2, hl, k _ H same_refl (.str _)⟩
theorem mt_zfill : MtR X "str.zfill" (fun x xs H Q => ∃ a i, x = .str a ∧ xs = [.int i] ∧ PadOk i = true ∧ Q (.str (Txt.zfill a i)) H) := by
  intro pins s σ H x xs v us Q I rx rs h
  obtain ⟨a, i, rfl, rfl, hp, h⟩ := h
  obtain ⟨t, rfl⟩ := rx
  cases rs with
  | cons r1 rs =>
    cases rs
    obtain ⟨u, rfl⟩ := r1
    exact PySem.SC.zfill hp fun t' k => ⟨.str _, H, I.tok k, ⟨_, rfl⟩, h⟩
theorem ev_zfill {x : Str} {i : Int} {apos : Pos} (ha : Ev X a r (.str x)) (hb : Ev X b r (.int i)) (hp : PadOk i = true)
    (hs : starEach [b] X.env = [(false, eval b X.env)] := by rfl) (hbase : attributeBase a "zfill" X.env (eval a X.env) = eval a X.env := by rfl) (hline : (apos.endLine == pos.line) = true := by rfl) :
    Ev X (.Call (.Attribute a "zfill" apos) [b] [] pos) r (.str (Txt.zfill x i)) :=
  PEof (pe_m1 F.slot_str_zfill F.type_str_zfill mt_zfill ha hb hs hbase hline) fun σ H Q ⟨hr, q⟩ => ⟨hr, fun u H1 s1 x1 => ⟨⟨x, str_dw x1⟩, hr.same s1, fun y H2 s2 x2 => ⟨x, i, str_dw x1, by rw [int_dw x2], hp, q _ H2 (s1.trans s2) (.str _)⟩⟩⟩
theorem ev_upTo {z : Str} {i : Int} {p2 : Pos} (ha : Ev X a r (.str z)) (hb : Ev X b r (.int i)) (hz : z.length ≤ sizeLine) : Ev X (.Subscript a (.Slice none (some b) none p2) pos) r (.str (cutS z none (some i))) :=
  PEof (pe_slice sl_str ha po_none (po_some hb)) fun σ H Q ⟨hr, q⟩ => ⟨hr, fun u H1 s1 x1 => ⟨hr.same s1, fun y H2 s2 x2 => ⟨i, int_dw x2, z, str_dw x1, hz, q _ H2 (s1.trans s2) (.str _)⟩⟩⟩
theorem ev_from {z : Str} {i : Int} {p2 : Pos} (ha : Ev X a r (.str z)) (hb : Ev X b r (.int i)) (hz : z.length ≤ sizeLine) : Ev X (.Subscript a (.Slice (some b) none none p2) pos) r (.str (cutS z (some i) none)) :=
  PEof (pe_slice sl_str ha (po_some hb) po_none) fun σ H Q ⟨hr, q⟩ => ⟨hr, fun u H1 s1 x1 => ⟨hr.same s1, fun y H2 s2 x2 => ⟨i, int_dw x2, z, str_dw x1, hz, q _ H2 (s1.trans s2) (.str _)⟩⟩⟩
def letters (l : List UInt8) : List WData := l.map fun (c : UInt8) => WData.str ⟨#[c.toNat]⟩
def numbersOf (l : List UInt8) : List WData := l.map fun (c : UInt8) => WData.int (c.toNat : Nat)
theorem src_str {tg : Expr} {l : List UInt8} (h : Ev X e r (.str (codes l))) : Src X tg e r (letters l) := PIof (pi_str h) fun σ H R ⟨hr, k⟩ => ⟨hr, fun x H1 s1 x1 => by
  have hs : (codes l).cps.size = l.length := codes_len l
  refine ⟨codes l, str_dw x1, k (Its (codes l)) H1 s1 ⟨fun i d H' s' e => ?_, fun H' s' => ?_⟩⟩
  · unfold letters at e
    rw [List.getElem?_map] at e
    cases e1 : l[i]? with
    | none => rw [e1] at e; cases e
    | some c =>
      rw [e1] at e
      have e : WData.str ⟨#[c.toNat]⟩ = d := Option.some.inj e
      subst e
      have hi : i < l.length := (List.getElem?_eq_some_iff.mp e1).1
      refine ⟨by show i < (codes l).cps.size; rw [hs]; exact hi, fun x H'' y => ?_⟩
      obtain ⟨rfl, c', hc, rfl⟩ := y
      have e2 : (codes l).cps[i]? = some c.toNat := by
        unfold codes
        simp [e1]
      rw [e2] at hc
      cases hc
      exact ⟨same_refl, .str _⟩
  · show (codes l).cps.size ≤ (letters l).length
    rw [hs]; unfold letters; simp⟩
theorem flats_numbers : ∀ l : List UInt8, flats (numbersOf l) = true
  | [] => rfl
  | c :: l => flats_numbers l
theorem lcStr (i : Nat) {x : Str} {px : Pos} {l : List UInt8} {scope : Scope} (hl : l.length ≤ 200) (hc : X.calm = true) (hN : X.N.Nodup) (ok : BlkOk X.N X.env.scope scope [(x, i)])
    (hg : ∀ (s : Shared) (H : Hp) (C : Addr) (cl : List (Str × Addr)) (fp : List Addr), PG (X.blk s H scope (compEnvC scope cl C X.env) fp) (.Name x px) (gName i))
    (he : ∀ (s : Shared) (H : Hp) (C : Addr) (cl : List (Str × Addr)) (fp : List Addr) (c : UInt8), Ev (X.blk s H scope (compEnvC scope cl C X.env) fp) e ((r.set i none).set i (some (.str ⟨#[c.toNat]⟩))) (.int (c.toNat : Nat))) :
    LcOk X (.Name x px) e scope [(x, i)] (gName i) r (letters l) (numbersOf l) (fun k => (r.set i none).set i (some ((letters l).getD k (.int 0)))) where
  hl := by unfold letters numbersOf; simp
  hz := by
    unfold numbersOf
    rw [List.length_map]
    exact Nat.le_trans hl (by show 200 ≤ sizeLine; decide)
  hf := flats_numbers l
  hc := hc
  hN := hN
  ok := ok
  hg := hg
  hk := fun k d h => by
    rw [List.getD_eq_getElem?_getD, h]
    exact take_name i
  he := fun s H C cl fp k d e h h' => by
    have h0 := h
    unfold letters at h
    unfold numbersOf at h'
    rw [List.getElem?_map] at h h'
    cases e1 : l[k]? with
    | none => rw [e1] at h; cases h
    | some c =>
      rw [e1] at h h'
      have h : WData.str ⟨#[c.toNat]⟩ = d := Option.some.inj h
      have h' : WData.int (c.toNat : Nat) = e := Option.some.inj h'
      subst h h'
      rw [List.getD_eq_getElem?_getD, h0]
      exact he s H C cl fp c
end
def okDec : Ok := fun ds d => ∃ (k : Int) (s : Nat), ds = [.int k, .int (s : Int)] ∧ d = .str (codes (pointed k s)) ∧ s ≤ 6 ∧ Sz 300 k
def TENS : List WData := [.int 1, .int 10, .int 100, .int 1000, .int 10000, .int 100000, .int 1000000]
theorem tens_at : ∀ n : Nat, n ≤ 6 → TENS[n]? = some (.int (10 ^ n : Nat)) := by
  intro n h
  rcases (by omega : n = 0 ∨ n = 1 ∨ n = 2 ∨ n = 3 ∨ n = 4 ∨ n = 5 ∨ n = 6) with rfl | rfl | rfl | rfl | rfl | rfl | rfl <;> rfl
theorem sz_ten : ∀ n : Nat, n ≤ 6 → Sz 20 ((10 ^ n : Nat) : Int) := by
  intro n h
  refine sz_of (k := 10 ^ 6) ?_ (by decide)
  show 10 ^ n ≤ 10 ^ 6
  exact Nat.pow_le_pow_right (by decide) h
theorem glo_tens {K : PySem.W.Frag} {h : Heap} {mg : Str → Option Value} {a : Addr} {d : Option Addr} {n : Nat} {s : Array (Option Value)} {t0 t1 t2 t3 t4 t5 t6 : Tok} (X : K.In h) (G : h.Ns mainGlobals mg) (e : PySem.W.nsIn K mainGlobals "TENS" = some (some (.ref a)))
    (l : K.lookup a = some ⟨.type "tuple", d, .seq #[.int 1 t0, .int 10 t1, .int 100 t2, .int 1000 t3, .int 10000 t4, .int 100000 t5, .int 1000000 t6] n, s⟩) : Glo K mg "TENS" (.tuple TENS) :=
  ⟨_, .ref a, PySem.W.mg_of X G e, rfl, fun H => .tup (xs := [.int 1, .int 10, .int 100, .int 1000, .int 10000, .int 100000, .int 1000000]) (.inr ⟨_, _, n, l, rfl, rfl, by show 7 ≤ sizeLine; decide, .cons ⟨t0, rfl⟩ (.cons ⟨t1, rfl⟩ (.cons ⟨t2, rfl⟩ (.cons ⟨t3, rfl⟩ (.cons ⟨t4, rfl⟩ (.cons ⟨t5, rfl⟩ (.cons ⟨t6, rfl⟩ .nil))))))⟩)
    (.cons (.int 1) (.cons (.int 10) (.cons (.int 100) (.cons (.int 1000) (.cons (.int 10000) (.cons (.int 100000) (.cons (.int 1000000) .nil)))))))⟩
def tellP (p q : Int) (n : Nat) : Int := nearP (p * ((10 ^ n : Nat) : Int)) (q * ((10 ^ n : Nat) : Int)) 2000
def textI (p q : Int) (n : Nat) : List Int := if 6 < n then [-1] else if lmb (p, q) = false then [-2] else 0 :: (pointed (tellP p q n) n).map fun (c : UInt8) => (c.toNat : Int)
def okText : Ok := fun ds r => ∃ (p q : Int) (n : Nat), ds = [.int p, .int q, .int (n : Int)] ∧ r = wN (textI p q n)
theorem text_is (p q : Int) (n : Nat) : PyWqakca.text p q (n : Int) = textI p q n := by
  rw [text_due p q n (Int.natCast_nonneg n)]
  unfold textI tellP
  rw [lmb_eq, near_ok p q (10 ^ n) (Nat.pow_pos (by decide)), Int.toNat_natCast]
  by_cases c : 6 < n
  · rw [if_pos c, if_pos (by omega)]
  · rw [if_neg c, if_neg (by omega)]
theorem asked_text {p q w : Int} (h : PlNeutral.asked [[[7, p, q, w]]] = true) : 0 ≤ w := by
  have h : (!false && (PlNeutral.asked1 [[7, p, q, w]] && true)) = true := h
  simp [PlNeutral.asked1, PlNeutral.whole32] at h
  omega
theorem sz_root {q : Int} {n : Nat} (hq : 0 ≤ q) (h : Sz n q) : Sz (n + 1) (rootI q) := by
  have h1 := (rootOf_ok (2 * q.natAbs * q.natAbs)).1
  have e : ((2 * q.natAbs * q.natAbs : Nat) : Int) = 2 * q * q := by
    rw [Nat.mul_assoc, Int.natCast_mul, Int.natAbs_mul_self, Int.mul_assoc]; rfl
  have h2 : rootI q * rootI q ≤ 2 * q * q := by
    rw [← e]
    unfold rootI
    rw [← Int.natCast_mul]
    exact Int.ofNat_le.mpr h1
  have h3 := (root_start hq).ab (rootI q) h2
  have h4 : 0 ≤ rootI q := by unfold rootI; exact Int.natCast_nonneg _
  unfold Sz at *
  rw [Nat.pow_succ]
  omega
theorem sz_floor {p q : Int} {n : Nat} (hp : Sz n p) (hq : Sz n q) (hn : 0 < n) : Sz (n + 3) (floorP p q) := by
  unfold floorP
  have h1 : Sz (n + 2) 1 := sz_mono (n := 1) (by unfold Sz; decide) (by omega)
  split
  · exact sz_sub (sz_sub (sz_mono hp (Nat.le_succ n)) (sz_root (by omega) (sz_neg hq)) (Nat.le_refl _)) h1 (Nat.le_refl _)
  · exact sz_add (sz_mono hp (Nat.le_succ n)) (sz_root (by omega) hq) (by omega)
theorem sz_tell {p q : Int} {n : Nat} (hp : Sz 41 p) (hq : Sz 41 q) (hn : n ≤ 6) : Sz 300 (tellP p q n) := by
  have a := sz_mul (m := 61) hp (sz_ten n hn) (by decide)
  have b := sz_mul (m := 61) hq (sz_ten n hn) (by decide)
  unfold tellP nearP
  have a2 : Sz 64 (2 * (p * ((10 ^ n : Nat) : Int)) + 2000) := sz_add (sz_mul (n := 2) (m := 63) (sz_two (by decide)) a (by decide)) (sz2000 (by decide)) (by decide)
  have b2 : Sz 64 (2 * (q * ((10 ^ n : Nat) : Int))) := sz_mul (n := 2) (sz_two (by decide)) b (by decide)
  have f : Sz 70 (downP (2 * (p * ((10 ^ n : Nat) : Int)) + 2000) (2 * (q * ((10 ^ n : Nat) : Int))) (2 * 2000)) := sz_mono (sz_div (sz_floor a2 b2 (by decide)) (by decide)) (by decide)
  dsimp only
  split
  · exact sz_sub f (sz_mono (n := 1) (by unfold Sz; decide) (by decide)) (by decide)
  · exact sz_mono f (by decide)
theorem pointed_len {k : Int} {s : Nat} (hs : s ≤ 6) (hk : Sz 300 k) : (pointed k s).length ≤ 200 := by
  rw [pointed_eq, List.length_append, List.length_append]
  have h1 := dig_len300 (n := k.natAbs / 10 ^ s) (Nat.lt_of_le_of_lt (Nat.div_le_self _ _) (Nat.lt_trans hk (by decide +kernel)))
  have h2 : (if k < 0 then ([45] : List UInt8) else []).length ≤ 1 := by split <;> decide
  have h3 : (if s = 0 then ([] : List UInt8) else 46 :: lastd s k.natAbs).length ≤ 7 := by
    split
    · decide
    · rw [List.length_cons, lastd_len]; omega
  omega
theorem pad_ok {s : Nat} (h : s ≤ 6) : PadOk ((s : Int) + 1) = true := by
  rcases (by omega : s = 0 ∨ s = 1 ∨ s = 2 ∨ s = 3 ∨ s = 4 ∨ s = 5 ∨ s = 6) with rfl | rfl | rfl | rfl | rfl | rfl | rfl <;> decide +kernel
theorem dec_zero (k : Int) : codes (pointed k 0) = codes (if k < 0 then [45] else []) ++ codes (padd k.natAbs (0 + 1)) := by
  rw [codes_app, padd_one, pointed_eq, if_pos rfl, List.append_nil, Nat.pow_zero, Nat.div_one]
theorem dec_cut (k : Int) (s : Nat) (h : 0 < s) : codes (pointed k s) = codes (if k < 0 then [45] else []) ++ codes (dig (k.natAbs / 10 ^ s)) ++ codes [46] ++ codes (lastd s k.natAbs) := by
  rw [codes_app, codes_app, codes_app, pointed_eq, if_neg (show ¬ s = 0 by omega)]
  simp
end B

end
section
set_option Elab.async false
set_option linter.all false
set_option maxRecDepth 100000
set_option maxHeartbeats 4000000
namespace B
open PySem PySem.Spec PyProof.Rows L2
open PySem.W (WData)
open My Pipe
def top (i : Nat) : Stmt := PySem.Challenge.pw_pipereach_s07_text.main.body.getD i (.Pass ⟨0, 0, 0, 0⟩)
abbrev sLengthMayBe : Stmt := top 4
theorem scLengthMayBe : FnScope ["p", "q"] ["p", "q"] (defScope sLengthMayBe) := ⟨rfl, rfl, rfl, by decide +kernel, rfl, by decide +kernel, by decide +kernel⟩
abbrev sWholeOfRoots : Stmt := top 5
theorem scWholeOfRoots : FnScope ["q", "square", "guess"] ["q"] (defScope sWholeOfRoots) := ⟨rfl, rfl, rfl, by decide +kernel, rfl, by decide +kernel, by decide +kernel⟩
abbrev sFloorOf : Stmt := top 6
theorem scFloorOf : FnScope ["p", "q"] ["p", "q"] (defScope sFloorOf) := ⟨rfl, rfl, rfl, by decide +kernel, rfl, by decide +kernel, by decide +kernel⟩
abbrev sRoundedDown : Stmt := top 7
theorem scRoundedDown : FnScope ["p", "q", "unit"] ["p", "q", "unit"] (defScope sRoundedDown) := ⟨rfl, rfl, rfl, by decide +kernel, rfl, by decide +kernel, by decide +kernel⟩
abbrev sNearest : Stmt := top 8
theorem scNearest : FnScope ["p", "q", "unit", "found"] ["p", "q", "unit"] (defScope sNearest) := ⟨rfl, rfl, rfl, by decide +kernel, rfl, by decide +kernel, by decide +kernel⟩
abbrev sDecimalText : Stmt := top 9
theorem scDecimalText : FnScope ["number", "places", "front", "digits"] ["number", "places"] (defScope sDecimalText) := ⟨rfl, rfl, rfl, by decide +kernel, rfl, by decide +kernel, by decide +kernel⟩
abbrev sText : Stmt := top 10
theorem scText : FnScope ["p", "q", "places", "number", "letter"] ["p", "q", "places"] (defScope sText) := ⟨rfl, rfl, rfl, by decide +kernel, rfl, by decide +kernel, by decide +kernel⟩

theorem bkText0 : BlkOk ["p", "q", "places", "number", "letter"] (defScope sText) { kind := .function, names := [(PySem.Str.ofString ".0", PySem.NameKind.local), (PySem.Str.ofString "letter", PySem.NameKind.local), (PySem.Str.ofString "ord", PySem.NameKind.globalImplicit)], isGenerator := false, isCoroutine := false, more := [] } [("letter", 4)] := ⟨rfl, by decide +kernel, by decide +kernel, by decide +kernel, by decide +kernel⟩
end B
set_option Elab.async false
set_option linter.all false
set_option maxRecDepth 100000
set_option maxHeartbeats 4000000
namespace B
open PySem PySem.Spec PyProof.Rows L2
open PySem.W (WData)
open My Pipe
section
variable {P : Program} {w : World} {K : PySem.W.Frag} {mg : Str → Option Value} {base : Heap}
theorem ok_length_may_be (F : FunAt K mg "length_may_be" sLengthMayBe) (Z : Bl mg) (G : Glo K mg "MOST" (.int 1099511627776)) : Fn P w K mg base 1 "length_may_be" okLmb := by
  refine fn_of_body (k := 0) F scLengthMayBe (fun _ _ _ _ _ _ us hl => match us, hl with | [_, _], _ => rfl) (fun ds d ⟨a, e, _⟩ => by rw [e]; rfl) ?_
  rintro f cdv A outer s H E hr ds d ⟨a, rfl, rfl⟩
  exact rt_ret (ev_and (ev_le (ev_abs Z.abs (ev_var 0 rfl)) (ev_glob G)) fun _ => ev_one (ev_le (ev_abs Z.abs (ev_var 1 rfl)) (ev_glob G)))
theorem ok_whole_of_roots (F : FunAt K mg "whole_of_roots" sWholeOfRoots) : Fn P w K mg base 1 "whole_of_roots" okRoots := by
  refine fn_of_body (k := 0) F scWholeOfRoots (fun _ _ _ _ _ _ us hl => match us, hl with | [_], _ => rfl) (fun ds d ⟨q, e, _⟩ => by rw [e]; rfl) ?_
  rintro f cdv A outer s H E hr ds d ⟨q, rfl, rfl, hq, hz⟩
  have h2 : Sz 302 (2 * q) := sz_mul (n := 2) (sz_two (by decide)) hz (by decide)
  refine rt_seq (nx_set 1 (ev_mul (ev_mul ev_int (ev_var 0 rfl) sm2 (sm hz (by decide))) (ev_var 0 rfl) (sm h2 (by decide)) (sm hz (by decide))) scWholeOfRoots.nd) ?_
  refine rt_seq (nx_set 2 (ev_mul ev_int (ev_var 0 rfl) sm2 (sm hz (by decide))) scWholeOfRoots.nd) ?_
  refine rt_seq (nx_while (r := [some (.int q), some (.int (2 * q * q)), some (.int (rootI q))]) (fun g => [some (.int q), some (.int (2 * q * q)), some (.int g)]) (RootOn q) (fun g => decide (2 * q * q < g * g)) (fun g => (g + 2 * q * q / g) / 2) Int.toNat (2 * q) PassesOwn.never ?_ ?_ (fun g h t => root_step h (of_decide_eq_true t)) (root_start hq) (fun g h t => by rw [root_end h (of_decide_eq_false t)])) (rt_ret (ev_var 2 rfl))
  · intro g h
    have hg := sm (root_sz h hq hz) (by decide)
    exact tt_gt (ev_mul (ev_var 2 rfl) (ev_var 2 rfl) hg hg) (ev_var 1 rfl)
  · intro g h t
    have hg := root_sz h hq hz
    exact nxs_cons (nx_set 2 (ev_fdiv (ev_add (ev_var 2 rfl) (ev_fdiv (ev_var 1 rfl) (ev_var 2 rfl) (root_pos h (of_decide_eq_true t)) (sm hg (by decide)))) ev_int (by decide) sm2) scWholeOfRoots.nd) nxs_nil
theorem ok_floor_of (F : FunAt K mg "floor_of" sFloorOf) (F1 : Fn P w K mg base 1 "whole_of_roots" okRoots) : Fn P w K mg base 2 "floor_of" okFloor := by
  refine fn_of_body (k := 1) F scFloorOf (fun _ _ _ _ _ _ us hl => match us, hl with | [_, _], _ => rfl) (fun ds d ⟨p, q, e, _⟩ => by rw [e]; rfl) ?_
  rintro f cdv A outer s H E hr ds d ⟨p, q, rfl, rfl, hp, hq⟩
  refine rt_if (tt_lt (ev_var 1 rfl) ev_int) (fun c => ?_) (fun c => ?_)
  · have c := of_decide_eq_true c
    have e : floorP p q = p - rootI (-q) - 1 := by unfold floorP; rw [if_pos c]
    rw [e]
    exact rt_ret (ev_sub (ev_sub (ev_var 0 rfl) (ev_call F1 hr (by decide) (eva_cons (ev_neg (ev_var 1 rfl)) eva_nil) ⟨-q, rfl, rfl, by omega, sz_neg hq⟩)) ev_int)
  · have c := of_decide_eq_false c
    have e : floorP p q = p + rootI q := by unfold floorP; rw [if_neg c]
    rw [e]
    exact rt_ret (ev_add (ev_var 0 rfl) (ev_call F1 hr (by decide) (eva_cons (ev_var 1 rfl) eva_nil) ⟨q, rfl, rfl, by omega, hq⟩))
theorem ok_rounded_down (F : FunAt K mg "rounded_down" sRoundedDown) (F1 : Fn P w K mg base 2 "floor_of" okFloor) : Fn P w K mg base 3 "rounded_down" okDown := by
  refine fn_of_body (k := 2) F scRoundedDown (fun _ _ _ _ _ _ us hl => match us, hl with | [_, _, _], _ => rfl) (fun ds d ⟨p, q, u, e, _⟩ => by rw [e]; rfl) ?_
  rintro f cdv A outer s H E hr ds d ⟨p, q, u, rfl, rfl, hp, hq, hu, hz⟩
  exact rt_ret (ev_fdiv (ev_call F1 hr (by decide) (eva_cons (ev_var 0 rfl) (eva_cons (ev_var 1 rfl) eva_nil)) ⟨p, q, rfl, rfl, hp, hq⟩) (ev_var 2 rfl) hu (sm hz (by decide)))
theorem ok_nearest (F : FunAt K mg "nearest" sNearest) (F1 : Fn P w K mg base 3 "rounded_down" okDown) : Fn P w K mg base 4 "nearest" okNear := by
  refine fn_of_body (k := 3) F scNearest (fun _ _ _ _ _ _ us hl => match us, hl with | [_, _, _], _ => rfl) (fun ds d ⟨p, q, u, e, _⟩ => by rw [e]; rfl) ?_
  rintro f cdv A outer s H E hr ds d ⟨p, q, u, rfl, rfl, hp, hq, hu, hz⟩
  have p2 : Sz 202 (2 * p) := sz_mul (n := 2) (sz_two (by decide)) hp (by decide)
  have q2 : Sz 202 (2 * q) := sz_mul (n := 2) (sz_two (by decide)) hq (by decide)
  have u2 : Sz 202 (2 * u) := sz_mul (n := 2) (sz_two (by decide)) hz (by decide)
  have pu : Sz 300 (2 * p + u) := sz_add p2 (sz_mono hz (by decide)) (by decide)
  refine rt_seq (nx_set 3 (ev_call F1 hr (by decide) (eva_cons (ev_add (ev_mul ev_int (ev_var 0 rfl) sm2 (sm hp (by decide))) (ev_var 2 rfl)) (eva_cons (ev_mul ev_int (ev_var 1 rfl) sm2 (sm hq (by decide))) (eva_cons (ev_mul ev_int (ev_var 2 rfl) sm2 (sm hz (by decide))) eva_nil))) ⟨2 * p + u, 2 * q, 2 * u, rfl, rfl, pu, sz_mono q2 (by decide), by omega, sz_mono u2 (by decide)⟩) scNearest.nd) ?_
  refine rt_if (PW.pt (tw_and (tt_eq (ev_var 1 rfl) ev_int) fun _ => tw_and (tt_eq (ev_mod (ev_add (ev_mul ev_int (ev_var 0 rfl) sm2 (sm hp (by decide))) (ev_var 2 rfl)) (ev_mul ev_int (ev_var 2 rfl) sm2 (sm hz (by decide))) (by omega)) ev_int) fun _ => tw_and1 (tt_eq (ev_mod (ev_var 3 rfl) ev_int (by decide)) ev_int))) (fun c => ?_) (fun c => ?_)
  · simp only [Bool.and_eq_true, decide_eq_true_iff] at c
    have e : nearP p q u = downP (2 * p + u) (2 * q) (2 * u) - 1 := by unfold nearP; dsimp only; rw [if_pos c]
    rw [e]
    exact rt_ret (ev_sub (ev_var 3 rfl) ev_int)
  · have c : ¬ (q = 0 ∧ (2 * p + u) % (2 * u) = 0 ∧ downP (2 * p + u) (2 * q) (2 * u) % 2 = 1) := fun z => by
      rw [decide_eq_true z.1, decide_eq_true z.2.1, decide_eq_true z.2.2] at c
      cases c
    have e : nearP p q u = downP (2 * p + u) (2 * q) (2 * u) := by unfold nearP; dsimp only; rw [if_neg c]
    rw [e]
    exact rt_ret (ev_var 3 rfl)
theorem ok_decimal_text (F : FunAt K mg "decimal_text" sDecimalText) (Z : Bl mg) (Zs : Bs mg) : Fn P w K mg base 1 "decimal_text" okDec := by
  refine fn_of_body (k := 0) F scDecimalText (fun _ _ _ _ _ _ us hl => match us, hl with | [_, _], _ => rfl) (fun ds d ⟨k, s, e, _⟩ => by rw [e]; rfl) ?_
  rintro f cdv A outer sh H E hr ds d ⟨k, s, rfl, rfl, hs, hk⟩
  have ea : (if k < 0 then -k else k) = ((k.natAbs : Nat) : Int) := by split <;> omega
  have em : codes [45] = ("-" : Str) := by decide +kernel
  have en : codes [] = ("" : Str) := by decide +kernel
  have hS : 800 ≤ sizeLine := by decide
  have hf : (if k < 0 then ([45] : List UInt8) else []).length ≤ 1 := by split <;> decide
  refine rt_seq (nx_set 2 (d := .str (codes (if k < 0 then [45] else []))) (ev_ifx (tt_lt (ev_var 0 rfl) ev_int) (fun c => by rw [if_pos (of_decide_eq_true c), em]; exact ev_str) (fun c => by rw [if_neg (of_decide_eq_false c), en]; exact ev_str)) scDecimalText.nd) ?_
  refine rt_seq (nx_set 3 (d := .str (codes (padd k.natAbs (s + 1)))) (by rw [← zfill_dig, ← str_dig, ← ea]; exact ev_zfill (ev_strI Zs.str (by rw [ea]; exact sz_mono (n := 300) (show Sz 300 ((k.natAbs : Nat) : Int) from hk) (by decide)) (ev_abs Z.abs (ev_var 0 rfl))) (ev_add (ev_var 1 rfl) ev_int) (pad_ok hs)) scDecimalText.nd) ?_
  refine rt_if (tt_eq (ev_var 1 rfl) ev_int) (fun c => ?_) (fun c => ?_)
  · have c : s = 0 := by have := of_decide_eq_true c; omega
    subst c
    rw [dec_zero]
    exact rt_ret (ev_catS (ev_var 2 rfl) (ev_var 3 rfl) (by rw [codes_len, codes_len, padd_one]; have := dig_len300 (n := k.natAbs) (Nat.lt_trans hk (by decide +kernel)); omega))
  · have c : 0 < s := by have := of_decide_eq_false c; omega
    have e := padd_split s k.natAbs
    have hl := dig_len300 (n := k.natAbs / 10 ^ s) (Nat.lt_of_le_of_lt (Nat.div_le_self _ _) (Nat.lt_trans hk (by decide +kernel)))
    have hz : (codes (padd k.natAbs (s + 1))).length ≤ sizeLine := by rw [codes_len, e, List.length_append, lastd_len]; omega
    have c1 := cut_front (dig (k.natAbs / 10 ^ s)) (lastd s k.natAbs) s c (lastd_len _ _)
    have c2 := cut_back (dig (k.natAbs / 10 ^ s)) (lastd s k.natAbs) s c (lastd_len _ _)
    rw [← e] at c1 c2
    have ed : ("." : Str) = codes [46] := by decide +kernel
    rw [dec_cut k s c, ← c1, ← c2, ← ed]
    exact rt_ret (ev_catS (ev_catS (ev_catS (ev_var 2 rfl) (ev_upTo (ev_var 3 rfl) (ev_neg (ev_var 1 rfl)) hz) (by rw [c1, codes_len, codes_len]; omega)) ev_str (by rw [c1, ed, codes_app, codes_len, codes_len, List.length_append]; show _ + 1 ≤ _; omega))
      (ev_from (ev_var 3 rfl) (ev_neg (ev_var 1 rfl)) hz) (by rw [c1, c2, ed, codes_app, codes_app, codes_len, codes_len, List.length_append, List.length_append, lastd_len]; show _ + 1 + _ ≤ _; omega))
theorem top_text {f0 : Addr} {fd : FuncData} (F : Fun K "text" "text" sText f0 fd) (Zs : Bs mg) (F1 : Fn P w K mg base 1 "length_may_be" okLmb) (F2 : Fn P w K mg base 4 "nearest" okNear) (F3 : Fn P w K mg base 1 "decimal_text" okDec) (G : Glo K mg "MILLIMETRE" (.int 2000)) (G2 : Glo K mg "TENS" (.tuple TENS)) : FnOk P w K mg base CX0 5 f0 fd ["p", "q", "places"] (spB K (okText)) := by
  refine fnok_of_body (k := 4) F scText (fun ds d ⟨p, q, u, e, _⟩ => by rw [e]; rfl) ?_
  rintro f cdv A outer sh H E hr ds d ⟨p, q, n, rfl, rfl⟩
  refine rt_if (tt_gt (ev_var 2 rfl) ev_int) (fun c => ?_) (fun c => ?_)
  · have c := of_decide_eq_true c
    have e : textI p q n = [-1] := by unfold textI; rw [if_pos (by omega)]
    rw [e]
    exact rt_ret (ev_lst (eva_cons (ev_neg ev_int) eva_nil))
  have c : ¬ 6 < n := by have := of_decide_eq_false c; omega
  have hn : n ≤ 6 := by omega
  refine rt_if (tt_not (tt_val (ev_call F1 hr (by decide) (eva_cons (ev_var 0 rfl) (eva_cons (ev_var 1 rfl) eva_nil)) ⟨(p, q), rfl, rfl⟩))) (fun c2 => ?_) (fun c2 => ?_)
  · rw [Bool.not_eq_true'] at c2
    have e : textI p q n = [-2] := by unfold textI; rw [if_neg c, if_pos c2]
    rw [e]
    exact rt_ret (ev_lst (eva_cons (ev_neg ev_int) eva_nil))
  have c2 : ¬ lmb (p, q) = false := by rw [Bool.not_eq_false'] at c2; rw [c2]; decide
  obtain ⟨hp, hq⟩ := lmb_sz c2
  have e : textI p q n = 0 :: (pointed (tellP p q n) n).map fun (c : UInt8) => (c.toNat : Int) := by unfold textI; rw [if_neg c, if_neg c2]
  have ht := sz_ten n hn
  have hl := pointed_len hn (sz_tell hp hq hn)
  refine rt_seq (nx_set 3 (d := .int (tellP p q n)) (ev_call F2 hr (by decide) (eva_cons (ev_mul (ev_var 0 rfl) (ev_ixT n (ev_glob G2) (ev_var 2 rfl) (tens_at n hn)) (sm hp (by decide)) (sm ht (by decide))) (eva_cons (ev_mul (ev_var 1 rfl) (ev_ixT n (ev_glob G2) (ev_var 2 rfl) (tens_at n hn)) (sm hq (by decide)) (sm ht (by decide))) (eva_cons (ev_glob G) eva_nil))) ⟨p * ((10 ^ n : Nat) : Int), q * ((10 ^ n : Nat) : Int), 2000, rfl, rfl, sz_mul hp ht (by decide), sz_mul hq ht (by decide), by decide, sz2000 (by decide)⟩) scText.nd) ?_
  have e2 : wN (textI p q n) = .list ([.int 0] ++ numbersOf (pointed (tellP p q n) n)) := by rw [e]; unfold wN numbersOf; rw [List.map_cons, List.map_map]; rfl
  rw [e2]
  have hS : 800 ≤ sizeLine := by decide
  have hz : ([WData.int 0] : List WData).length + (numbersOf (pointed (tellP p q n) n)).length ≤ sizeLine := by
    unfold numbersOf; rw [List.length_map]; show 1 + _ ≤ _; omega
  exact rt_ret (ev_cat (ev_lst (eva_cons ev_int eva_nil)) (ev_lc (src_str (ev_call F3 hr (by decide) (eva_cons (ev_var 3 rfl) (eva_cons (ev_var 2 rfl) eva_nil)) ⟨tellP p q n, n, rfl, rfl, hn, sz_tell hp hq hn⟩)) (lcStr 4 hl rfl scText.nd bkText0 (fun _ _ _ _ _ => pg_name scText.nd rfl (Or.inl rfl)) (fun _ _ _ _ _ c => ev_ord Zs.ord (ev_var 4 rfl)))) hz)
end
end B

end
open PySem PySem.W PyProof.Rows
set_option maxRecDepth 100000 in
set_option maxHeartbeats 0 in
theorem PySem.Challenge.cw_pipereach_s07_text_holds : PySem.Challenge.rw_pipereach_s07_text.Holds := by
  w_on; k_headS; (case hw => exact ⟨[.int 0, .int 0, .int 0], by decide +kernel, by decide +kernel⟩)
  k_fillS
  refine L2.walk_specK (r := PySem.Challenge.rw_pipereach_s07_text) (k := 5) (CX := L2.CX0) (ps := ["p", "q", "places"]) (sp := fun K => B.spB K (B.okText)) (by decide +kernel) rfl rfl ⟨rfl, by decide, by decide⟩ (fun w h Y => PySem.W.kIn_of Y) ?F ?S (fun _ _ _ _ z => z)
  case F =>
    intro w mg fa h Y KX G hmg
    have f_length_may_be := B.funAt_mk (x := "length_may_be") (st := B.sLengthMayBe) KX G (by k_is) (by k_is) (by k_is) (by k_is)
    have f_whole_of_roots := B.funAt_mk (x := "whole_of_roots") (st := B.sWholeOfRoots) KX G (by k_is) (by k_is) (by k_is) (by k_is)
    have f_floor_of := B.funAt_mk (x := "floor_of") (st := B.sFloorOf) KX G (by k_is) (by k_is) (by k_is) (by k_is)
    have f_rounded_down := B.funAt_mk (x := "rounded_down") (st := B.sRoundedDown) KX G (by k_is) (by k_is) (by k_is) (by k_is)
    have f_nearest := B.funAt_mk (x := "nearest") (st := B.sNearest) KX G (by k_is) (by k_is) (by k_is) (by k_is)
    have f_decimal_text := B.funAt_mk (x := "decimal_text") (st := B.sDecimalText) KX G (by k_is) (by k_is) (by k_is) (by k_is)
    have c_MILLIMETRE := B.glo_int (x := "MILLIMETRE") (i := 2000) KX G (by k_is)
    have c_MOST := B.glo_int (x := "MOST") (i := 1099511627776) KX G (by k_is)
    have c_TENS := B.glo_tens KX G (by k_is) (by k_is)
    have Z : B.Bl mg := ⟨PySem.W.mg_none_of KX G (by k_is), PySem.W.mg_none_of KX G (by k_is), PySem.W.mg_none_of KX G (by k_is), PySem.W.mg_none_of KX G (by k_is), PySem.W.mg_none_of KX G (by k_is), PySem.W.mg_none_of KX G (by k_is)⟩
    have Zs : B.Bs mg := ⟨PySem.W.mg_none_of KX G (by k_is), PySem.W.mg_none_of KX G (by k_is)⟩
    refine' B.top_mk (x := "text") (st := B.sText) KX G hmg ?a ?l ?c ?k (fun us hl => match us, hl with | [_, _, _], _ => rfl) ?main
    (case a => k_is); (case l => k_is); (case c => k_is); (case k => k_is)
    case main =>
      intro base kb nb fd Fu
      have g_length_may_be := B.ok_length_may_be (P := PySem.Challenge.rw_pipereach_s07_text.prog) (w := w) (base := base) f_length_may_be Z c_MOST
      have g_whole_of_roots := B.ok_whole_of_roots (P := PySem.Challenge.rw_pipereach_s07_text.prog) (w := w) (base := base) f_whole_of_roots
      have g_floor_of := B.ok_floor_of (P := PySem.Challenge.rw_pipereach_s07_text.prog) (w := w) (base := base) f_floor_of g_whole_of_roots
      have g_rounded_down := B.ok_rounded_down (P := PySem.Challenge.rw_pipereach_s07_text.prog) (w := w) (base := base) f_rounded_down g_floor_of
      have g_nearest := B.ok_nearest (P := PySem.Challenge.rw_pipereach_s07_text.prog) (w := w) (base := base) f_nearest g_rounded_down
      have g_decimal_text := B.ok_decimal_text (P := PySem.Challenge.rw_pipereach_s07_text.prog) (w := w) (base := base) f_decimal_text Z Zs
      exact B.top_text (P := PySem.Challenge.rw_pipereach_s07_text.prog) (w := w) (base := base) Fu Zs g_length_may_be g_nearest g_decimal_text c_MILLIMETRE c_TENS
  case S =>
    intro K H xs a hO hwi hask hx
    obtain ⟨p, q, w0, u⟩ := a
    have hw := B.asked_text (show PlNeutral.asked [[[7, p, q, w0]]] = true from hask)
    obtain ⟨n, rfl⟩ : ∃ n : Nat, w0 = (n : Int) := ⟨w0.toNat, (Int.toNat_of_nonneg hw).symm⟩
    have q : B.spB K B.okText xs H (fun v H' => L2.Dw K H' v (.list ((PyWqakca.text p q (n : Int)).map WData.int))) (fun _ _ _ => False) := ⟨[.int p, .int q, .int (n : Int)], B.wN (B.textI p q n), hx, ⟨p, q, n, rfl, rfl⟩, fun v H' _ x => by rw [B.text_is p q n]; exact x⟩
    exact q
#print axioms PySem.Challenge.cw_pipereach_s07_text_holds
