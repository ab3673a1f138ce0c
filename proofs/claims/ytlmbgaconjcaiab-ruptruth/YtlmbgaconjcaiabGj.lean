/- Rows that are written in place. -/
import Derived.Test.YtlmbgaconjcaiabGi
import Derived.Test.YtlmbgaconjcaiabPlainL
import Derived.ArgAppend
set_option linter.unusedVariables false
set_option linter.unusedSimpArgs false
namespace Go.Proofs.Ytlmbgaconjcaiab
open Go.RowKit

theorem wpList_append_room {P : Program} {w : World} {ops : Array Oper} {rest : List Oper} {o : Oper} {a : Act} {Q : Exit → Act → World → Prop}
    (hgd : o.guard = none) (s x : Operand) (t : TypeId) (hop : o.op = Op.call { callee := Callee.builtin Builtin.append, args := #[s, x], argTypes := #[t, t] })
    (e : TypeId) (i : TypeInfo) (size : Nat) (h1 : P.underlying t = some (.slice e)) (h2 : P.info? e = some i) (h4 : i.size = size)
    (b off n cap : Nat) (hs : a.eval s = .slice (some ⟨b, off, none⟩) n cap)
    (ad : Addr) (m c : Nat) (news : List Value) (hx : a.eval x = .slice (some ad) m c) (hn : news.length = m * size) (hc : ∀ j u, news[j]? = some u → w.cell? (ad.add j) = some u) (h1c : ∀ u ∈ news, u.oneCell' = true)
    (hroom : n + m ≤ cap) (hspare : ∀ j, j < news.length → (w.cell? ⟨b, off + n * size + j, none⟩).isSome = true ∧ w.frozen? ⟨b, off + n * size + j, none⟩ = false)
    (h : wpList P ops Q rest (a.put o.dst (.slice (some ⟨b, off, none⟩) (n + m) cap)) (w.setCells b (off + n * size) news)) : wpList P ops Q (o :: rest) a w := by
  subst h4
  have hrun := run_append_room_cells (P := P) w t o.type e i h1 h2 b off n cap ad m c news hn hc h1c hroom (fun j hj => (hspare j hj).1) (fun j hj => (hspare j hj).2)
  refine wpList_plain hgd fun K hK => ?_
  unfold Oper.wp execOp
  simp only [hop, resolve, invoke, builtin, Sem.run_bind, Sem.run_pure, Result.andThen_ok, List.map_toArray, List.map_cons, List.map_nil, hs, hx, hrun]
  exact hK _ _ h

/-- Values written one behind the other. -/
def setsL (xs : List Value) : Nat → List Value → List Value
  | _, [] => xs
  | o, y :: ys => setsL (xs.set o y) (o + 1) ys
theorem setsL_eq : ∀ (ys xs : List Value) (o : Nat), o + ys.length ≤ xs.length → setsL xs o ys = xs.take o ++ ys ++ xs.drop (o + ys.length)
  | [], xs, o, h => by simp [setsL]
  | y :: ys, xs, o, h => by
    simp only [List.length_cons] at h
    rw [setsL, setsL_eq ys (xs.set o y) (o + 1) (by rw [List.length_set]; omega)]
    have e1 : (xs.set o y).take (o + 1) = xs.take o ++ [y] := by
      rw [List.take_succ_eq_append_getElem (by rw [List.length_set]; omega), List.take_set_of_le (Nat.le_refl o)]
      simp
    have e2 : (xs.set o y).drop (o + 1 + ys.length) = xs.drop (o + (ys.length + 1)) := by
      rw [List.drop_set_of_lt (by omega)]; congr 1; omega
    rw [e1, e2]; simp
theorem own_sets {base e sz n g : Nat} {v : Value} (hg : v.ownBlock = some g) : ∀ (ys : List Value) (o : Nat) (xs : List Value) (w : World), w.ownsRow base e sz v n xs → (w.setCells g o ys).ownsRow base e sz v n (setsL xs o ys)
  | [], _, xs, w, h => h
  | y :: ys, o, xs, w, h => own_sets hg ys (o + 1) (xs.set o y) _ (own_set (i := o) h hg y)

end Go.Proofs.Ytlmbgaconjcaiab
