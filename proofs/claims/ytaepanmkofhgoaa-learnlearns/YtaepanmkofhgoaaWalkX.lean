/- What is appended in a region whose order is open; contracts of the document's learning, in parts. -/
import Derived.Test.YtaepanmkofhgoaaWalkW
set_option linter.unusedVariables false
set_option linter.unusedSimpArgs false
namespace Go.Proofs.Ytaepanmkofhgoaa
open Go.RowKit

/-- append onto a row of the call's own (not nil), at a step of a region that draws. -/
theorem step_append_src {P : Program} {w : World} {ops : Array Oper} {o : Oper} {act : Act} {K : Act → World → Prop} {Q : Exit → Act → World → Prop} {E : Prop} (hgd : o.guard = none) (s x : Operand) (t : TypeId)
    (ho : o.op = .call { callee := .builtin .append, args := #[s, x], argTypes := #[t, t] })
    (base : Nat) (e : TypeId) (i : TypeInfo) (z : Value) (size bytes : Nat) (ht : P.underlying t = some (.slice e)) (hi : P.info? e = some i) (hz : i.zero = some z)
    (hsize : i.size = size) (hby : i.bytes = bytes) (hzs : z.cells.size = size) (hsz : 0 < size)
    (v : Value) (n : Nat) (xs : List Value) (hs : act.eval s = v) (hown : w.ownsRow base e size v n xs) (hv : v ≠ .slice none 0 0)
    (ad : Addr) (m c : Nat) (news : List Value) (hx : act.eval x = .slice (some ad) m c) (hl : news.length = m * size) (hnews : ∀ j u, news[j]? = some u → w.cell? (ad.add j) = some u) (h1 : ∀ u ∈ news, u.oneCell' = true)
    (h63 : n + m ≤ maxLen) (hbytes : (n + m) * bytes ≤ 140737488355328) (hbase : base ≤ w.heap.size)
    (h : ∀ g cap w', w'.ownsRow base e size (.slice (some ⟨g, 0, none⟩) (n + m) cap) (n + m) (xs ++ news) → w.grownBy w' v.ownBlock → K (act.put o.dst (.slice (some ⟨g, 0, none⟩) (n + m) cap)) w') :
    if Region.wanted o (yielded ops act.tmps) = true then Oper.wp P o act w K Q else E := by
  have hw : Region.wanted o (yielded ops act.tmps) = true := by simp [Region.wanted, hgd]
  rw [if_pos hw]
  obtain ⟨v', w', hr, h2, h3, h4, h5⟩ := run_append_own_at (P := P) w base t o.type e i z size bytes ht hi hz hsize hby hzs hsz v n xs hown ad m c news hl hnews h1 h63 hbytes hbase
  have hv' : v' ≠ .slice none 0 0 := fun e => hv (h4.1 e).1
  have h2' := h2
  rcases h2.2 with ⟨h0, _⟩ | ⟨g, cap, cur, rfl, hb, hg, rest⟩
  · exact absurd h0 hv'
  · unfold Oper.wp execOp
    simp only [ho, resolve, invoke, builtin, Sem.run_bind, Sem.run_pure, Result.andThen_ok, List.map_toArray, List.map_cons, List.map_nil, hs, hx, hr]
    exact h g cap w' h2' h3

theorem cnt_take {ts : List As} {lv : Int} {S : List Int} {k : Nat} (h : k < S.length) : cnt ts lv (S.take (k + 1)) = cnt ts lv (S.take k) + (if levI ts S[k] = lv then 1 else 0) := by
  rw [List.take_succ_eq_append_getElem h, cnt_append, cnt_cons]
  simp [cnt]

/-- In the midst of the document's learning. -/
structure LR (w wr : World) (ts : List As) (c : List Int) (lv : Int) (q : Nat) (u : Value) (S : List Int) : Prop where
  own : Own w.heap.size wr u S
  nn : u ≠ .slice none 0 0
  inv : InvL ts lv q S
  same : loopL ts lv q S = learnS ts c
  bel : Below w.heap.size w wr

end Go.Proofs.Ytaepanmkofhgoaa
