/- How long the text of a proof is. -/
import Derived.Test.YtgklollpajhmlaaDoorWalkQ
import Derived.Test.YtgklollpajhmlaaDoorWalkR
set_option linter.unusedVariables false
set_option linter.unusedSimpArgs false
namespace Go.Proofs.YtgklollpajhmlaaDoor
open Go.RowKit Go.Maps

theorem stepT_len {s : Stp} (h : mayB s.2 1048576 = true) : (stepT s).length ≤ 21 * s.2.length + 4 := by
  have := litsT_len s.2 (lits_bd h)
  unfold stepT clauseT delT
  split <;> simp <;> omega

theorem printT_len : ∀ (l : List Stp), (∀ s ∈ l, mayB s.2 1048576 = true) → (printT l).length ≤ 21 * litsN l + 4 * l.length
  | [], _ => by simp [printT]
  | s :: l, h => by
    have ih := printT_len l (fun x hx => h x (by simp [hx]))
    have h1 := stepT_len (h s (by simp))
    have e : printT (s :: l) = stepT s ++ printT l := by simp [printT]
    have e2 : litsN (s :: l) = s.2.length + litsN l := by simp [litsN]
    rw [e, e2, List.length_append, List.length_cons]
    omega

theorem printT_take {l : List Stp} (h : mayL l = true) (h1 : l.length ≤ 300) (h2 : litsN l ≤ 6000) (k : Nat) : (printT (l.take k)).length ≤ 130000 := by
  have h3 := printT_len (l.take k) (fun s hs => (mayL_parts h).2 s (List.mem_of_mem_take hs))
  have h4 := litsN_take l k
  have h5 : (l.take k).length ≤ l.length := List.length_take_le' k l
  omega

end Go.Proofs.YtgklollpajhmlaaDoor
