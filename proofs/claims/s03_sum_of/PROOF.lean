import PyProof.Rows.All
import KE.OsGo
import KE.OsArgs
import PySem.Challenge.RW_pipereach_s03_sum_of
open PySem PySem.W
set_option Elab.async false
namespace My
theorem sum_due (a b c d : Int) : PyWqakca.sum_of a b c d = [0, a + c, b + d] := rfl
theorem told3 (l : List Int) (y z : Int) (h : l = [0, y, z]) : PySem.W.ofPy (PySem.PyData.list [PySem.PyData.int 0, PySem.PyData.int y, PySem.PyData.int z]) = PySem.W.WData.list (l.map PySem.W.WData.int) := by
  subst h; simp [PySem.W.ofPy, PySem.W.ofPys]
end My
theorem said : PySem.Challenge.rw_pipereach_s03_sum_of.wellSaid = true := by decide +kernel
set_option maxRecDepth 100000 in
set_option maxHeartbeats 8000000 in
theorem PySem.Challenge.cw_pipereach_s03_sum_of_holds : PySem.Challenge.rw_pipereach_s03_sum_of.Holds := by
  open_ks with [.int 0, .int 0, .int 0, .int 0]
  all_goals (
    os_open said with v w y e
    obtain ⟨a, b, c, d, u⟩ := v
    have e0 := os_j_int (List.cons.inj e).1
    have e1 := os_j_int (List.cons.inj (List.cons.inj e).2).1
    have e2 := os_j_int (List.cons.inj (List.cons.inj (List.cons.inj e).2).2).1
    have e3 := os_j_int (List.cons.inj (List.cons.inj (List.cons.inj (List.cons.inj e).2).2).2).1
    subst e0 e1 e2 e3
    exact My.told3 (PyWqakca.sum_of _ _ _ _) _ _ (My.sum_due _ _ _ _))
#print axioms PySem.Challenge.cw_pipereach_s03_sum_of_holds
