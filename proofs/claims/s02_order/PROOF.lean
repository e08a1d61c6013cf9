import PyProof.Rows.All
import KE.OsGo
import KE.OsArgs
import PySem.Challenge.RW_pipereach_s02_order
open PySem PySem.W
set_option Elab.async false
namespace My
open Pipe
/-- signOf over whole numbers -/
def signI (p q : Int) : Int :=
  if 0 ≤ p ∧ 0 ≤ q then (if p = 0 ∧ q = 0 then 0 else 1)
  else if p ≤ 0 ∧ q ≤ 0 then -1
  else if 0 < p then (if 2 * q * q < p * p then 1 else -1)
  else (if p * p < 2 * q * q then 1 else -1)
theorem signOf_int (p q : Int) : signOf (p : Rat) (q : Rat) = signI p q := by
  have h0 : ∀ a : Int, (0 ≤ (a : Rat)) ↔ 0 ≤ a := fun a => by
    have := @Rat.intCast_le_intCast 0 a; simpa using this
  have h1 : ∀ a : Int, ((a : Rat) ≤ 0) ↔ a ≤ 0 := fun a => by
    have := @Rat.intCast_le_intCast a 0; simpa using this
  have h2 : ∀ a : Int, ((a : Rat) = 0) ↔ a = 0 := fun a => by
    have := @Rat.intCast_inj a 0; simp
  have h3 : ∀ a : Int, (0 < (a : Rat)) ↔ 0 < a := fun a => by
    have := @Rat.intCast_lt_intCast 0 a; simpa using this
  have h4 : (2 * (q:Rat) * q < p * p) ↔ 2 * q * q < p * p := by
    rw [← @Rat.intCast_lt_intCast (2*q*q) (p*p)]; simp [Rat.intCast_mul]
  have h5 : ((p:Rat) * p < 2 * q * q) ↔ p * p < 2 * q * q := by
    rw [← @Rat.intCast_lt_intCast (p*p) (2*q*q)]; simp [Rat.intCast_mul]
  unfold signOf signI
  simp only [h0, h1, h2, h3, h4, h5]
theorem irr_nat : ∀ n p q : Nat, q ≤ n → p * p = 2 * (q * q) → q = 0
  | 0, p, q, h, _ => by omega
  | n+1, p, q, h, e => by
    have hp : p % 2 = 0 := by
      rcases Nat.mod_two_eq_zero_or_one p with h | h
      · exact h
      · have : (p * p) % 2 = 1 := by rw [Nat.mul_mod, h]
        omega
    obtain ⟨k, hk⟩ : ∃ k, p = 2 * k := ⟨p / 2, by omega⟩
    subst hk
    have e2 : q * q = 2 * (k * k) := by grind
    by_cases hq : q = 0
    · exact hq
    · have hkq : k < q := by
        apply Nat.lt_of_not_le; intro hle
        have h1 := Nat.mul_le_mul hle hle
        have h2 : 0 < q * q := Nat.mul_pos (by omega) (by omega)
        omega
      have hk0 := irr_nat n q k (by omega) e2
      subst hk0
      have : q * q = 0 := by omega
      rcases Nat.mul_eq_zero.mp this with h | h <;> exact h
theorem irr (p q : Int) (e : p * p = 2 * (q * q)) : p = 0 ∧ q = 0 := by
  have h1 := irr_nat q.natAbs p.natAbs q.natAbs (Nat.le_refl _) (by
    have : ((p.natAbs * p.natAbs : Nat) : Int) = ((2 * (q.natAbs * q.natAbs) : Nat) : Int) := by
      rw [Int.natAbs_mul_self, e, Int.natCast_mul, Int.natAbs_mul_self]; rfl
    exact Int.ofNat.inj this)
  have hq : q = 0 := by omega
  subst hq
  have : p * p = 0 := by simpa using e
  exact ⟨by rcases Int.mul_eq_zero.mp this with h | h <;> exact h, rfl⟩
/-- the sign as the program's weight tells it -/
def wt (p q : Int) : Int := p * (p.natAbs : Int) + 2 * q * (q.natAbs : Int)
theorem signI_wt (p q : Int) : signI p q = if wt p q < 0 then -1 else if 0 < wt p q then 1 else 0 := by
  have hp : ∀ a : Int, 0 ≤ a → (a.natAbs : Int) = a := fun a h => by omega
  have hn : ∀ a : Int, a ≤ 0 → (a.natAbs : Int) = -a := fun a h => by omega
  have sq : ∀ a : Int, 0 ≤ a * a := fun a => by
    rcases Int.le_total 0 a with h | h
    · exact Int.mul_nonneg h h
    · exact Int.mul_nonneg_of_nonpos_of_nonpos h h
  have sqp : ∀ a : Int, a ≠ 0 → 0 < a * a := fun a h => by
    have := sq a
    have h2 : a * a ≠ 0 := fun e => by rcases Int.mul_eq_zero.mp e with h' | h' <;> exact h h'
    omega
  have ir := irr p q
  unfold signI wt
  have e1 : 2 * q * q = 2 * (q * q) := Int.mul_assoc _ _ _
  have e2 : 2 * q * -q = -(2 * (q * q)) := by grind
  have e3 : p * -p = -(p * p) := by grind
  have a1 := sq p; have a2 := sq q; have b1 := sqp p; have b2 := sqp q
  rcases Int.le_total 0 p with h | h <;> rcases Int.le_total 0 q with h' | h'
  · rw [hp p h, hp q h', e1]; grind
  · rw [hp p h, hn q h', e1, e2]; grind
  · rw [hn p h, hp q h', e1, e3]; grind
  · rw [hn p h, hn q h', e1, e2, e3]; grind
theorem sign_due (p q : Int) : PyWqakca.sign p q = [0, signI p q] := by
  show [0, signOf (p : Rat) (q : Rat)] = _
  rw [signOf_int]
theorem order_due (a b c d : Int) : PyWqakca.order a b c d = [0, signI (a - c) (b - d)] := by
  show [0, signOf ((a - c : Int) : Rat) ((b - d : Int) : Rat)] = _
  rw [signOf_int]
/-- the program's weight -/
def wp (p q : Int) : Int := (p * if p < 0 then -p else p) + 2 * q * if q < 0 then -q else q
theorem wp_wt (p q : Int) : wp p q = wt p q := by
  unfold wp wt
  have h : ∀ a : Int, (if a < 0 then -a else a) = (a.natAbs : Int) := fun a => by split <;> omega
  rw [h, h]
theorem at_neg (p q : Int) (h : wp p q < 0) : signI p q = -1 := by rw [signI_wt, ← wp_wt, if_pos h]
theorem at_pos (p q : Int) (h : ¬ wp p q < 0) (h' : 0 < wp p q) : signI p q = 1 := by rw [signI_wt, ← wp_wt, if_neg h, if_pos h']
theorem at_zero (p q : Int) (h : ¬ wp p q < 0) (h' : ¬ 0 < wp p q) : signI p q = 0 := by rw [signI_wt, ← wp_wt, if_neg h, if_neg h']
theorem told (l : List Int) (z : Int) (h : l = [0, z]) : PySem.W.ofPy (PySem.PyData.list [PySem.PyData.int 0, PySem.PyData.int z]) = PySem.W.WData.list (l.map PySem.W.WData.int) := by
  subst h; simp [PySem.W.ofPy, PySem.W.ofPys]
end My

theorem said : PySem.Challenge.rw_pipereach_s02_order.wellSaid = true := by decide +kernel
set_option maxRecDepth 100000 in
set_option maxHeartbeats 8000000 in
theorem PySem.Challenge.cw_pipereach_s02_order_holds : PySem.Challenge.rw_pipereach_s02_order.Holds := by
  open_ks with [.int 0, .int 0, .int 0, .int 0]
  all_goals (
    os_open said with v w y e
    obtain ⟨a, b, c, d, u⟩ := v
    have e0 := os_j_int (List.cons.inj e).1
    have e1 := os_j_int (List.cons.inj (List.cons.inj e).2).1
    have e2 := os_j_int (List.cons.inj (List.cons.inj (List.cons.inj e).2).2).1
    have e3 := os_j_int (List.cons.inj (List.cons.inj (List.cons.inj (List.cons.inj e).2).2).2).1
    subst e0 e1 e2 e3
    refine My.told (PyWqakca.order _ _ _ _) _ ?_
    rw [My.order_due])
  · exact congrArg (fun z => [0, z]) (My.at_neg _ _ (by assumption))
  · exact congrArg (fun z => [0, z]) (My.at_pos _ _ (by assumption) (by assumption))
  · exact congrArg (fun z => [0, z]) (My.at_zero _ _ (by assumption) (by assumption))
#print axioms PySem.Challenge.cw_pipereach_s02_order_holds
