/- The law's words: some bits constants, the others inputs. -/
import Derived.Test.YtdjfciigfledhaaVr
set_option linter.unusedVariables false
set_option linter.unusedSimpArgs false
namespace Go.Proofs.Ytdjfciigfledhaa
open Go.RowKit Go.Maps

/-- Bools behind a slice: nothing, or a block of bools. -/
def Bo (W : World) (ai : Option Addr) (c : Nat) (L : List Bool) : Prop :=
  Vs W ai L ∧ ((ai = none ∧ L = [] ∧ c = 0) ∨ ∃ b off cs fr, ai = some ⟨b, off, none⟩ ∧ W.heap[b]? = some (Obj.cells cs 4 fr))
theorem Bo.keep {W W1 : World} {ai : Option Addr} {c : Nat} {L : List Bool} (h : Bo W ai c L) (hk : ∀ (b : Nat) cs fr, W.heap[b]? = some (Obj.cells cs 4 fr) → W1.heap[b]? = W.heap[b]?) : Bo W1 ai c L := by
  obtain ⟨hv, ⟨rfl, rfl, rfl⟩ | ⟨b, off, cs, fr, rfl, hb⟩⟩ := h
  · exact ⟨fun k hk => by simp at hk, .inl ⟨rfl, rfl, rfl⟩⟩
  · have e := hk b cs fr hb
    refine ⟨fun k hk => ?_, .inr ⟨b, off, cs, fr, rfl, e.trans hb⟩⟩
    obtain ⟨b', off', e', hb', hc⟩ := hv k hk
    cases e'
    exact ⟨b, off, rfl, lt_of_block (e.trans hb), (World.cell?_of_block e).trans hc⟩
theorem Bo.st {w W : World} {B M k c : Nat} {v v' : Value} {g g' : List Gt} {ai : Option Addr} {L : List Bool} (h : Bo w ai c L) (hA : Gr w B M v g) (s : St w W B M v v' g g' k) : Bo W ai c L :=
  h.keep fun b cs fr hb => s.kp.block b (lt_of_block hb) (hA.typ hb (by decide) (by decide))
theorem Bo.below {W W1 : World} {ai : Option Addr} {c : Nat} {L : List Bool} (h : Bo W ai c L) (hb : Below W.heap.size W W1) : Bo W1 ai c L :=
  h.keep fun b cs fr h' => hb.block b (lt_of_block h')
theorem bo_nil (W : World) : Bo W none 0 [] := ⟨fun k hk => by simp at hk, .inl ⟨rfl, rfl, rfl⟩⟩
theorem Bo.src {W : World} {ai : Option Addr} {c : Nat} {L : List Bool} (h : Bo W ai c L) : (ai = none ∧ L.length = 0 ∧ c = 0 ∧ bcl L = []) ∨ ∃ ad, ai = some ad ∧ (bcl L).length = L.length * 1 ∧ ∀ j u, (bcl L)[j]? = some u → W.cell? (ad.add j) = some u := by
  obtain ⟨hv, ⟨rfl, rfl, rfl⟩ | ⟨b, off, cs, fr, rfl, hb⟩⟩ := h
  · exact .inl ⟨rfl, rfl, rfl, rfl⟩
  · refine .inr ⟨_, rfl, by simp [bcl], fun j u hu => ?_⟩
    unfold bcl at hu
    rw [List.getElem?_map] at hu
    obtain ⟨x, hx, rfl⟩ := Option.map_eq_some_iff.1 hu
    obtain ⟨hj, rfl⟩ := List.getElem?_eq_some_iff.1 hx
    obtain ⟨b', o', e, _, hc⟩ := hv j hj
    cases e
    rw [Addr.add_lit]
    exact hc
theorem bo_own {w : World} {base q n c : Nat} {L : List Bool} (h : w.ownsRow base 4 1 (.slice (some ⟨q, 0, none⟩) n c) n (bcl L)) : n = L.length ∧ Bo w (some ⟨q, 0, none⟩) c L := by
  obtain ⟨e1, e2, e3⟩ := vs_own h
  refine ⟨e1, e2, .inr ?_⟩
  rcases h.2 with ⟨hn, _⟩ | ⟨g, cap, cur, e', h1, hg, r⟩
  · cases hn
  · cases e'; exact ⟨_, _, _, _, rfl, hg⟩
theorem io_own {w : World} {base q n c : Nat} {l : List Int} (h : w.ownsRow base 3 1 (.slice (some ⟨q, 0, none⟩) n c) n (l.map (Value.int .i64))) : l.length = n ∧ Row w (some ⟨q, 0, none⟩) l ∧ n ≤ c ∧ ∃ cs fr, w.heap[q]? = some (Obj.cells cs 3 fr) := by
  have hl : (l.map (Value.int .i64)).length = n * 1 := h.1
  have e : l.length = n := by simpa using hl
  refine ⟨e, fun i hi => ⟨q, 0, rfl, (h.lt q rfl).2, ?_⟩, ?_⟩
  · have := h.cells (g := q) rfl i (.int .i64 l[i]) (by simp [hi])
    rw [Addr.add_lit] at this
    exact this
  · rcases h.2 with ⟨e, _⟩ | ⟨g', cap, cur, e, _, hg, hn, _⟩
    · simp at e
    · simp at e
      obtain ⟨rfl, rfl⟩ := e
      exact ⟨hn, _, _, hg⟩
theorem own_st {w W : World} {B M k q base n c : Nat} {v v' : Value} {g g' : List Gt} {xs : List Value} (h : w.ownsRow base 3 1 (.slice (some ⟨q, 0, none⟩) n c) n xs) (hA : Gr w B M v g) (s : St w W B M v v' g g' k) : W.ownsRow base 3 1 (.slice (some ⟨q, 0, none⟩) n c) n xs := by
  refine ⟨h.1, ?_⟩
  rcases h.2 with hn | ⟨g0, cap, cur, e', h1, hg, r⟩
  · exact .inl hn
  · exact .inr ⟨g0, cap, cur, e', h1, (s.kp.block g0 (lt_of_block hg) (hA.typ hg (by decide) (by decide))).trans hg, r⟩
/-- A block of ints turns, all others stay. -/
theorem Bo.grown {W W1 : World} {ai : Option Addr} {c q : Nat} {L : List Bool} {cs : Array Value} {fr : Nat × Nat} (h : Bo W ai c L) (hq : W.heap[q]? = some (Obj.cells cs 3 fr)) (hg : W.grownBy W1 (some q)) : Bo W1 ai c L :=
  h.keep fun b cs' fr' hb => hg.block b (lt_of_block hb) (fun e => by cases e; rw [hq] at hb; cases hb)

/-- A number's bits. -/
def bitsN (n k : Nat) : List Bool := (List.range k).map (tb n)
theorem bitsN_snoc (n k : Nat) : bitsN n (k + 1) = bitsN n k ++ [tb n k] := by unfold bitsN; rw [List.range_succ, List.map_append]; rfl
theorem bitsN_num : ∀ (n k : Nat), n < 2 ^ k → numB (bitsN n k) = n := by
  intro n k
  have key : ∀ k, numB (bitsN n k) = n % 2 ^ k := by
    intro k
    induction k with
    | zero => simp [bitsN, numB, Nat.mod_one]
    | succ k ih =>
      rw [bitsN_snoc, numB_snoc, ih, mod_next, show (bitsN n k).length = k by simp [bitsN]]
      unfold tb
      by_cases h : n / 2 ^ k % 2 = 1
      · simp [h, b2n]
      · simp [h, b2n]
  intro h
  rw [key, Nat.mod_eq_of_lt h]
/-- What a word in the making means, by inputs that begin so. -/
structure Sm (g : List Gt) (l : List Int) (L : List Bool) (n k : Nat) : Prop where
  wd : Wd g l
  cnt : L.length = cntF g 0
  num : ∀ t, bitsW (L ++ t) g l = bitsN n k
theorem Sm.const {g : List Gt} {l : List Int} {L : List Bool} {n k : Nat} (h : Sm g l L n k) : Sm g (l ++ [ci (tb n k)]) L n (k + 1) := by
  have hc : Lt g (ci (tb n k)) (fun _ => tb n k) := by
    cases tb n k
    · exact lt_zero g
    · exact lt_one g
  refine ⟨h.wd.snoc hc.1, h.cnt, fun t => ?_⟩
  have h1 := h.num t
  have h2 := hc.2 (L ++ t)
  unfold bitsW at *
  rw [List.map_append, h1, List.map_singleton, h2, bitsN_snoc]
theorem Sm.input {g g' : List Gt} {l : List Int} {L : List Bool} {n k j : Nat} {x : Int} (h : Sm g l L n k) (e : Grow g g' j) (hc : cntF g' 0 = cntF g 0 + 1) (hx : Lt g' x (fun ins => ins.getD (cntF g 0) false)) : Sm g' (l ++ [x]) (L ++ [tb n k]) n (k + 1) := by
  refine ⟨(h.wd.grow e).snoc hx.1, by rw [hc, ← h.cnt]; simp, fun t => ?_⟩
  have h1 := h.num ([tb n k] ++ t)
  have h2 := hx.2 (L ++ [tb n k] ++ t)
  have h3 := bitsW_grow (ins := L ++ ([tb n k] ++ t)) e h.wd
  rw [h1] at h3
  rw [← List.append_assoc] at h3
  unfold bitsW at *
  rw [List.map_append, h3, List.map_singleton, h2, bitsN_snoc, ← h.cnt]
  simp
/-- A word that is there stays as it is. -/
theorem Sm.more {g g' : List Gt} {l : List Int} {L e : List Bool} {n k j : Nat} (h : Sm g l L n k) (x : Grow g g' j) : ∀ t, bitsW ((L ++ e) ++ t) g' l = bitsN n k := fun t => by
  rw [bitsW_grow x h.wd, List.append_assoc]; exact h.num _
theorem inX {w : World} {B M : Nat} {v : Value} {g : List Gt} (hA : Gr w B M v g) (hl : g.length ≤ 999990) :
    Calls Try.prog 30 #[.pointer (some ⟨B, 0, none⟩)] w fun e w' => ∃ l v' g', e = .returned (.int .i64 l) ∧ St w w' B M v v' g g' 1 ∧ Lt g' l (fun ins => ins.getD (cntF g 0) false) ∧ cntF g' 0 = cntF g 0 + 1 := by
  refine (in_any w B M v g hA (by omega)).mono fun e w' h => ?_
  have q := in_grow hA.may
  obtain ⟨rfl, v', h1, h2, h3⟩ := h
  refine ⟨_, v', _, rfl, ⟨h1, h2, h3, q.1⟩, ⟨q.2, fun ins => ?_⟩, ?_⟩
  · unfold inF
    dsimp only
    rw [allV_snoc]
    unfold valF
    rw [if_neg (by omega), if_neg (by simp [allV_len]; omega), show (2 * ((g.length : Int) + 1) / 2 - 1).toNat = g.length by omega, List.getD_eq_getElem?_getD, List.getElem?_append_right (by simp [allV_len])]
    simp [allV_len, bitF, isInB]
  · unfold inF
    dsimp only
    rw [cnt_snoc]
    simp [nextF, isInB]
end Go.Proofs.Ytdjfciigfledhaa
