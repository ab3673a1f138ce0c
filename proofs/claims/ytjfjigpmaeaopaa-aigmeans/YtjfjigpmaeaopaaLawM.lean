/- The law of meaning: what is told of literals, plain; the midst of the law. -/
import Derived.Test.YtjfjigpmaeaopaaWalkZ
import Derived.Test.YtjfjigpmaeaopaaEvB
set_option linter.unusedVariables false
set_option linter.unusedSimpArgs false
namespace Go.Proofs.Ytjfjigpmaeaopaa
open Go.RowKit Go.Maps

/-- The numbers that the law takes as literals. -/
def takeF (n : Int) (p : List Int) : List Int := (p.filter (fun x => decide (0 ≤ x))).map (fun x => x % n)
theorem take_snoc (n : Int) (p : List Int) (x : Int) : takeF n (p ++ [x]) = if 0 ≤ x then takeF n p ++ [x % n] else takeF n p := by
  unfold takeF
  rw [List.filter_append, List.map_append]
  by_cases h : 0 ≤ x
  · simp [h]
  · simp [h]
theorem take_len (n : Int) (p : List Int) : (takeF n p).length ≤ p.length := by
  unfold takeF
  rw [List.length_map]
  exact List.length_filter_le _ _
theorem take_lit {g : List Gt} {p : List Int} : ∀ x ∈ takeF (2 * (g.length : Int) + 2) p, isB g x = true := by
  intro x hx
  unfold takeF at hx
  obtain ⟨y, hy, rfl⟩ := List.mem_map.1 hx
  rw [isB_iff]
  have h1 := Int.emod_nonneg y (b := 2 * (g.length : Int) + 2) (by omega)
  have h2 := Int.emod_lt_of_pos y (b := 2 * (g.length : Int) + 2) (by omega)
  omega

/-- The five that are made. -/
def mk1 (g : List Gt) (a b : Int) : List Gt × Int := andF g a b
def mk2 (g : List Gt) (a b : Int) : List Gt × Int := orF (mk1 g a b).1 a b
def mk3 (g : List Gt) (a b : Int) : List Gt × Int := xorF (mk2 g a b).1 a b
def mk4 (g : List Gt) (a b c : Int) : List Gt × Int := iteF (mk3 g a b).1 c a b
def mk5 (g : List Gt) (a b c : Int) (l : List Int) : List Gt × Int := allF (andF (mk4 g a b c).1 1 1).1 (andF (mk4 g a b c).1 1 1).2 l

theorem made_all {g : List Gt} (hm : May g) {a b c : Int} {l : List Int} (ins : List Bool) (ha : isB g a = true) (hb : isB g b = true) (hc : isB g c = true) (hl : ∀ k ∈ l, isB g k = true) :
    (May (mk1 g a b).1 ∧ May (mk2 g a b).1 ∧ May (mk3 g a b).1 ∧ May (mk4 g a b c).1 ∧ May (mk5 g a b c l).1) ∧
    ((mk1 g a b).1.length ≤ g.length + 1 ∧ (mk2 g a b).1.length ≤ g.length + 2 ∧ (mk3 g a b).1.length ≤ g.length + 5 ∧ (mk4 g a b c).1.length ≤ g.length + 8 ∧ (mk5 g a b c l).1.length ≤ g.length + 9 + l.length) ∧
    (0 ≤ (mk1 g a b).2 ∧ 0 ≤ (mk2 g a b).2 ∧ 0 ≤ (mk3 g a b).2 ∧ 0 ≤ (mk4 g a b c).2 ∧ 0 ≤ (mk5 g a b c l).2) ∧
    (valF (allV ins (mk5 g a b c l).1) (mk1 g a b).2 = (valF (allV ins (mk5 g a b c l).1) a && valF (allV ins (mk5 g a b c l).1) b) ∧
     valF (allV ins (mk5 g a b c l).1) (mk2 g a b).2 = (valF (allV ins (mk5 g a b c l).1) a || valF (allV ins (mk5 g a b c l).1) b) ∧
     valF (allV ins (mk5 g a b c l).1) (mk3 g a b).2 = (valF (allV ins (mk5 g a b c l).1) a != valF (allV ins (mk5 g a b c l).1) b) ∧
     valF (allV ins (mk5 g a b c l).1) (mk4 g a b c).2 = (if valF (allV ins (mk5 g a b c l).1) c then valF (allV ins (mk5 g a b c l).1) a else valF (allV ins (mk5 g a b c l).1) b) ∧
     valF (allV ins (mk5 g a b c l).1) (mk5 g a b c l).2 = l.all fun k => valF (allV ins (mk5 g a b c l).1) k) := by
  have g1 := and_grow hm a b
  have g2 := or_grow g1.1.may a b
  have g3 := xor_grow g2.1.may a b
  have g4 := ite_grow g3.1.may c a b
  have g5 := and_grow g4.1.may 1 1
  have g6 := all_grow l (andF (mk4 g a b c).1 1 1).2 g5.1.may
  have p2 := g1.1.trans g2.1
  have p3 := p2.trans g3.1
  have p4 := p3.trans g4.1
  have p5 := p4.trans g5.1
  have p6 := p5.trans g6.1
  have one : isB (mk4 g a b c).1 1 = true := by rw [isB_iff]; omega
  have l1 : isB (mk1 g a b).1 (mk1 g a b).2 = true := g1.2.1 ha hb
  have l2 : isB (mk2 g a b).1 (mk2 g a b).2 = true := g2.2.1 (g1.1.lit ha) (g1.1.lit hb)
  have l3 : isB (mk3 g a b).1 (mk3 g a b).2 = true := g3.2 (p2.lit ha) (p2.lit hb)
  have l4 : isB (mk4 g a b c).1 (mk4 g a b c).2 = true := g4.2 (p3.lit hc) (p3.lit ha) (p3.lit hb)
  have l5 := g5.2.1 one one
  have l6 : isB (mk5 g a b c l).1 (mk5 g a b c l).2 = true := g6.2 l5 (fun k hk => p5.lit (hl k hk))
  have V : ∀ {h : List Gt} {n : Nat}, Grow h (mk5 g a b c l).1 n → ∀ {x : Int}, isB h x = true → valF (allV ins (mk5 g a b c l).1) x = valF (allV ins h) x := fun hg x hx => val_grow hg hx
  have q5 := g6.1
  have q4 := g5.1.trans q5
  have q3 := g4.1.trans q4
  have q2 := g3.1.trans q3
  have q1 := g2.1.trans q2
  refine ⟨⟨g1.1.may, g2.1.may, g3.1.may, g4.1.may, g6.1.may⟩, ⟨g1.1.len.2, ?_, ?_, ?_, ?_⟩, ⟨(isB_iff.1 l1).1, (isB_iff.1 l2).1, (isB_iff.1 l3).1, (isB_iff.1 l4).1, (isB_iff.1 l6).1⟩, ?_, ?_, ?_, ?_, ?_⟩
  · exact Nat.le_trans p2.len.2 (by omega)
  · exact Nat.le_trans p3.len.2 (by omega)
  · exact Nat.le_trans p4.len.2 (by omega)
  · exact Nat.le_trans p6.len.2 (by omega)
  · rw [V q1 l1, V p6 ha, V p6 hb]; exact and_mean hm ha hb
  · rw [V q2 l2, V q1 (g1.1.lit ha), V q1 (g1.1.lit hb)]; exact or_mean g1.1.may (g1.1.lit ha) (g1.1.lit hb)
  · rw [V q3 l3, V q2 (p2.lit ha), V q2 (p2.lit hb)]; exact xor_mean g2.1.may (p2.lit ha) (p2.lit hb)
  · rw [V q4 l4, V q3 (p3.lit hc), V q3 (p3.lit ha), V q3 (p3.lit hb)]; exact ite_mean g3.1.may (p3.lit hc) (p3.lit ha) (p3.lit hb)
  · have h6 : valF (allV ins (mk5 g a b c l).1) (mk5 g a b c l).2 = (valF (allV ins (andF (mk4 g a b c).1 1 1).1) (andF (mk4 g a b c).1 1 1).2 && l.all fun k => valF (allV ins (andF (mk4 g a b c).1 1 1).1) k) :=
      all_mean (ins := ins) l (andF (mk4 g a b c).1 1 1).2 g5.1.may l5 (fun k hk => p5.lit (hl k hk))
    have h5 : valF (allV ins (andF (mk4 g a b c).1 1 1).1) (andF (mk4 g a b c).1 1 1).2 = (valF (allV ins (mk4 g a b c).1) 1 && valF (allV ins (mk4 g a b c).1) 1) := and_mean (ins := ins) g4.1.may one one
    have e2 : (l.all fun k => valF (allV ins (andF (mk4 g a b c).1 1 1).1) k) = l.all fun k => valF (allV ins (mk5 g a b c l).1) k := by
      rw [Bool.eq_iff_iff, List.all_eq_true, List.all_eq_true]
      have V5 : ∀ j, j ∈ l → valF (allV ins (mk5 g a b c l).1) j = valF (allV ins (andF (mk4 g a b c).1 1 1).1) j := fun j hj => V q5 (p5.lit (hl j hj))
      constructor
      · intro h j hj; rw [V5 j hj]; exact h j hj
      · intro h j hj; rw [← V5 j hj]; exact h j hj
    rw [h6, h5, val_one, e2]
    rfl

/-- In the midst of the law: the graph, and the row of literals. -/
structure Ms (w W : World) (B M : Nat) (v : Value) (q : Nat) (qs : List Int) (g : List Gt) : Prop where
  gr : Gr W B M v g
  row : Row W (some ⟨q, 0, none⟩) qs
  apart : ¬ Sv B M v q
  qlt : q < W.heap.size
  bel : Below w.heap.size w W
  lo : ∀ b, Sv B M v b → w.heap.size ≤ b
theorem Ms.act {w W W1 : World} {B M q : Nat} {v : Value} {qs : List Int} {g g' : List Gt} (h : Ms w W B M v q qs g) (k : GrP W B M v g' W1) : ∃ v', Ms w W1 B M v' q qs g' := by
  obtain ⟨v', k1, k2, k3⟩ := k
  exact ⟨v', k1, h.row.kp k2 (fun b o e => by cases e; exact h.apart), sv_far h.apart k3 h.qlt, Nat.lt_of_lt_of_le h.qlt k2.size, below_kp h.bel k2 h.lo h.bel.size, sv_lo h.lo k3 h.bel.size⟩
theorem Ms.below {w W W1 : World} {B M q : Nat} {v : Value} {qs : List Int} {g : List Gt} (h : Ms w W B M v q qs g) (hb : Below W.heap.size W W1) : Ms w W1 B M v q qs g :=
  ⟨h.gr.below hb, h.row.below hb, h.apart, Nat.lt_of_lt_of_le h.qlt hb.size, h.bel.trans (hb.mono h.bel.size), h.lo⟩
end Go.Proofs.Ytjfjigpmaeaopaa
