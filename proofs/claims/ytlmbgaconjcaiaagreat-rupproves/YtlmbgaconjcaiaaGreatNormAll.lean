/- Joined: Literals in order, each once: the document's own way and any way that sorts and drops repeats give one list. The library's Compact at its place in this program: which function is which, by the program's own rows. Contracts of the library's functions, in this proof's words. Contracts: how two numbers stand as literals, whatever they are; sorting none. The library's sort by a given order at its place in this program: which function is which, by the program's own rows. Contracts: literals in order, each once. A tautology, told by literals that stand side by side. Contract: a clause in order, and whether it is a tautology. A text that just clauses with the same literals have: plain. Contract: what is common to clauses with the same literals, as a text. -/
import Derived.Test.YtlmbgaconjcaiaaGreatPlain
import Derived.Lib.SlicesCompact
import Derived.Sort.Statements
import Derived.Shelf.Slices.Turned
import Derived.Shelf.Slices.Equal
import Derived.Ground.Names2Prog
import Derived.Shelf.Slices.Clone
import Derived.Shelf.Slices.CompactI
import Derived.Test.YtlmbgaconjcaiaaGreatProg
import Derived.Test.YtlmbgaconjcaiaaGreatRiAll
import Derived.Lib.OwnBridge
import Derived.Ground.SlsfProg
import Derived.Shelf.SlSortCmp.Whole1
import Derived.Laws.IdiomStrings
set_option linter.unusedVariables false
set_option linter.unusedSimpArgs false
namespace Go.Proofs.YtlmbgaconjcaiaaGreat

theorem ahead_iff {a b : Int} : aheadB a b = true ↔ (varI a < varI b ∨ (varI a = varI b ∧ b < a)) := by simp [aheadB]
theorem ahead_not {a b : Int} : aheadB a b = false ↔ ¬ (varI a < varI b ∨ (varI a = varI b ∧ b < a)) := by rw [← ahead_iff]; simp
theorem ahead_irrefl (a : Int) : aheadB a a = false := by rw [ahead_not]; omega
theorem ahead_trans {a b c : Int} (h : aheadB a b = true) (g : aheadB b c = true) : aheadB a c = true := by rw [ahead_iff] at *; omega
theorem ahead_total {a b : Int} (h : aheadB a b = false) (g : aheadB b a = false) : a = b := by
  rw [ahead_not] at h g
  have e : ∀ l : Int, (l < 0 ∧ varI l = -l) ∨ (0 ≤ l ∧ varI l = l) := fun l => by unfold varI; split <;> omega
  have ea := e a
  have eb := e b
  omega

/-- In order, each once. -/
def Ordered (xs : List Int) : Prop := xs.Pairwise (fun a b => aheadB a b = true)

theorem ordered_unique : ∀ {xs ys : List Int}, Ordered xs → Ordered ys → (∀ x, x ∈ xs ↔ x ∈ ys) → xs = ys
  | [], [], _, _, _ => rfl
  | [], y :: ys, _, _, h => by have := (h y).2 (by simp); simp at this
  | x :: xs, [], _, _, h => by have := (h x).1 (by simp); simp at this
  | x :: xs, y :: ys, hx, hy, h => by
    have hx' := List.pairwise_cons.1 hx
    have hy' := List.pairwise_cons.1 hy
    have e : x = y := by
      rcases List.mem_cons.1 ((h x).1 (by simp)) with e | e
      · exact e
      rcases List.mem_cons.1 ((h y).2 (by simp)) with f | f
      · exact f.symm
      have a := hy'.1 x e
      have b := hx'.1 y f
      have := ahead_trans a b
      rw [ahead_irrefl] at this; cases this
    subst e
    congr 1
    refine ordered_unique hx'.2 hy'.2 fun z => ?_
    constructor
    · intro hz
      rcases List.mem_cons.1 ((h z).1 (by simp [hz])) with e | e
      · subst e; have := hx'.1 z hz; rw [ahead_irrefl] at this; cases this
      · exact e
    · intro hz
      rcases List.mem_cons.1 ((h z).2 (by simp [hz])) with e | e
      · subst e; have := hy'.1 z hz; rw [ahead_irrefl] at this; cases this
      · exact e

/-- How many of a list stand ahead of a literal, from its head on. -/
def cut (out : List Int) (x : Int) : Nat := (out.takeWhile (fun y => aheadB y x)).length

theorem cut_le (out : List Int) (x : Int) : cut out x ≤ out.length := (List.takeWhile_prefix _).length_le

theorem take_cut (out : List Int) (x : Int) : out.take (cut out x) = out.takeWhile (fun y => aheadB y x) := by
  have h := List.takeWhile_append_dropWhile (p := fun y => aheadB y x) (l := out)
  unfold cut
  conv => lhs; arg 2; rw [← h]
  rw [List.take_left]

theorem drop_cut (out : List Int) (x : Int) : out.drop (cut out x) = out.dropWhile (fun y => aheadB y x) := by
  have h := List.takeWhile_append_dropWhile (p := fun y => aheadB y x) (l := out)
  unfold cut
  conv => lhs; arg 2; rw [← h]
  rw [List.drop_left]

theorem cut_of {out : List Int} {x : Int} {j : Nat} (hj : j ≤ out.length) (h1 : ∀ i (h : i < j), aheadB (out[i]'(by omega)) x = true) (h2 : ∀ h : j < out.length, aheadB out[j] x = false) : cut out x = j := by
  unfold cut
  have e : out.takeWhile (fun y => aheadB y x) = out.take j := by
    conv => lhs; rw [← List.take_append_drop j out]
    rw [List.takeWhile_append_of_pos]
    · have : (out.drop j).takeWhile (fun y => aheadB y x) = [] := by
        by_cases hlt : j < out.length
        · rw [List.drop_eq_getElem_cons hlt, List.takeWhile_cons, h2 hlt]; rfl
        · rw [List.drop_of_length_le (by omega)]; rfl
      rw [this, List.append_nil]
    · intro a ha
      obtain ⟨i, hi, rfl⟩ := List.mem_iff_getElem.1 ha
      rw [List.getElem_take]
      exact h1 i (by simp at hi; omega)
  rw [e, List.length_take]; omega

/-- A literal laid among literals in order. -/
def ins (out : List Int) (x : Int) : List Int := if hasB out x then out else out.take (cut out x) ++ x :: out.drop (cut out x)

theorem hasB_iff {xs : List Int} {n : Int} : hasB xs n = true ↔ n ∈ xs := by simp [hasB]
theorem hasB_not {xs : List Int} {n : Int} : hasB xs n = false ↔ n ∉ xs := by rw [← hasB_iff]; simp

theorem ins_mem {out : List Int} {x z : Int} : z ∈ ins out x ↔ z = x ∨ z ∈ out := by
  unfold ins
  split
  · rename_i h
    rw [hasB_iff] at h
    constructor
    · exact Or.inr
    · rintro (rfl | h')
      · exact h
      · exact h'
  · have : out.take (cut out x) ++ out.drop (cut out x) = out := List.take_append_drop _ _
    conv => rhs; rw [← this]
    simp only [List.mem_append, List.mem_cons]
    constructor
    · rintro (h | h | h) <;> simp [h]
    · rintro (h | h | h) <;> simp [h]

theorem ins_ordered {out : List Int} {x : Int} (h : Ordered out) : Ordered (ins out x) := by
  unfold ins
  split
  · exact h
  rename_i hn
  have hn' : x ∉ out := by rw [← hasB_not]; simpa using hn
  rw [take_cut, drop_cut]
  have hs := List.takeWhile_append_dropWhile (p := fun y => aheadB y x) (l := out)
  have h' : Ordered (out.takeWhile (fun y => aheadB y x) ++ out.dropWhile (fun y => aheadB y x)) := by rw [hs]; exact h
  obtain ⟨p1, p2, p3⟩ := List.pairwise_append.1 h'
  have q1 : ∀ y ∈ out.takeWhile (fun y => aheadB y x), aheadB y x = true := fun y hy => by
    have := List.all_takeWhile (p := fun y => aheadB y x) (l := out); rw [List.all_eq_true] at this; exact this y hy
  have q2 : ∀ y ∈ out.dropWhile (fun y => aheadB y x), aheadB x y = true := by
    intro y hy
    cases hd : out.dropWhile (fun y => aheadB y x) with
    | nil => rw [hd] at hy; cases hy
    | cons z zs =>
      have hz : aheadB z x = false := by
        have := List.head_dropWhile_not (p := fun y => aheadB y x) (l := out) (w := by rw [hd]; simp)
        simpa [hd] using this
      have hzx : aheadB x z = true := by
        cases hc : aheadB x z with
        | true => rfl
        | false =>
          have e := ahead_total hz hc
          exfalso; apply hn'
          rw [← hs, hd, ← e]; simp
      rw [hd] at hy
      rcases List.mem_cons.1 hy with rfl | hy'
      · exact hzx
      · rw [hd] at p2; exact ahead_trans hzx ((List.pairwise_cons.1 p2).1 y hy')
  unfold Ordered
  rw [List.pairwise_append]
  refine ⟨p1, List.pairwise_cons.2 ⟨q2, p2⟩, ?_⟩
  intro a ha b hb
  rcases List.mem_cons.1 hb with rfl | hb
  · exact q1 a ha
  · exact p3 a ha b hb

/-- Literals in order, each once. -/
def order (c : List Int) : List Int := c.foldl ins []

theorem foldl_mem (c : List Int) : ∀ (out : List Int) (z : Int), z ∈ c.foldl ins out ↔ z ∈ c ∨ z ∈ out := by
  induction c with
  | nil => intro out z; simp
  | cons x c ih =>
    intro out z
    rw [List.foldl_cons, ih, ins_mem, List.mem_cons]
    constructor
    · rintro (h | h | h) <;> simp [h]
    · rintro ((h | h) | h) <;> simp [h]

theorem foldl_ordered (c : List Int) : ∀ out, Ordered out → Ordered (c.foldl ins out) := by
  induction c with
  | nil => intro out h; exact h
  | cons x c ih => intro out h; exact ih _ (ins_ordered h)

theorem order_mem {c : List Int} {z : Int} : z ∈ order c ↔ z ∈ c := by unfold order; rw [foldl_mem]; simp
theorem order_ordered (c : List Int) : Ordered (order c) := foldl_ordered c [] List.Pairwise.nil

theorem order_take {c : List Int} {k : Nat} (h : k < c.length) : order (c.take (k + 1)) = ins (order (c.take k)) c[k] := by
  unfold order; rw [List.take_succ_eq_append_getElem h, List.foldl_append]; rfl

theorem ins_len (out : List Int) (x : Int) : (ins out x).length ≤ out.length + 1 := by
  unfold ins; split
  · omega
  · simp; omega

theorem foldl_len (c : List Int) : ∀ out, (c.foldl ins out).length ≤ out.length + c.length := by
  induction c with
  | nil => intro out; simp
  | cons x c ih => intro out; have := ih (ins out x); have := ins_len out x; simp at *; omega

theorem order_len (c : List Int) : (order c).length ≤ c.length := by have := foldl_len c []; simpa [order] using this

open Go.Sort Go.Lib

/-- Each once, of a list that is sorted: in order, and the same numbers. -/
theorem compact_sorted (d : Array Int) (hd : ∀ i j, i < j → j < d.size → aheadB d[j]! d[i]! = false) (m : Nat) (hm : m ≤ d.size) :
    Ordered (compactUpTo d m) ∧ ∀ x, x ∈ compactUpTo d m ↔ ∃ j, j < m ∧ d[j]! = x := by
  induction m with
  | zero => exact ⟨List.Pairwise.nil, fun x => by simp [compactUpTo]⟩
  | succ m ih =>
    obtain ⟨h1, h2⟩ := ih (by omega)
    rw [compactUpTo_succ]
    by_cases hk : keeps d m = true
    · rw [if_pos hk]
      have hne : m = 0 ∨ d[m]! ≠ d[m - 1]! := by simpa [keeps] using hk
      refine ⟨?_, fun x => ?_⟩
      · unfold Ordered
        rw [List.pairwise_append]
        refine ⟨h1, List.pairwise_singleton _ _, fun a ha b hb => ?_⟩
        rw [List.mem_singleton] at hb; subst hb
        obtain ⟨j, hj, rfl⟩ := (h2 a).1 ha
        cases hc : aheadB d[j]! d[m]! with
        | true => rfl
        | false =>
          exfalso
          have e := ahead_total hc (hd j m hj (by omega))
          rcases hne with h0 | hne
          · omega
          apply hne
          rcases Nat.lt_or_ge j (m - 1) with h | h
          · have a1 := hd (m - 1) m (by omega) (by omega)
            have a2 := hd j (m - 1) h (by omega)
            rw [e] at a2
            exact ahead_total a1 a2
          · have : j = m - 1 := by omega
            subst this; exact e.symm
      · rw [List.mem_append, h2, List.mem_singleton]
        constructor
        · rintro (⟨j, hj, h⟩ | h)
          · exact ⟨j, by omega, h⟩
          · exact ⟨m, by omega, h.symm⟩
        · rintro ⟨j, hj, h⟩
          rcases Nat.lt_or_ge j m with h' | h'
          · exact .inl ⟨j, h', h⟩
          · have : j = m := by omega
            subst this; exact .inr h.symm
    · rw [if_neg hk, List.append_nil]
      have hne : ¬ (m = 0 ∨ d[m]! ≠ d[m - 1]!) := by simpa [keeps] using hk
      refine ⟨h1, fun x => ?_⟩
      rw [h2]
      constructor
      · rintro ⟨j, hj, h⟩; exact ⟨j, by omega, h⟩
      · rintro ⟨j, hj, h⟩
        rcases Nat.lt_or_ge j m with h' | h'
        · exact ⟨j, h', h⟩
        · have e : j = m := by omega
          subst e
          refine ⟨j - 1, by omega, ?_⟩
          rw [← h]
          by_cases e' : d[j]! = d[j - 1]!
          · exact e'.symm
          · exact absurd (Or.inr e') hne

/-- What sorts and then drops repeats gives the literals in order. -/
theorem compact_order {c ys : List Int} (hp : ∀ x, x ∈ ys ↔ x ∈ c) (hd : ∀ i j, i < j → j < ys.length → aheadB ys.toArray[j]! ys.toArray[i]! = false) : compact ys = order c := by
  obtain ⟨h1, h2⟩ := compact_sorted ys.toArray (by simpa using hd) ys.length (by simp)
  refine ordered_unique h1 (order_ordered c) fun x => ?_
  unfold compact
  rw [h2, order_mem, ← hp, List.mem_iff_getElem]
  constructor
  · rintro ⟨j, hj, h⟩; exact ⟨j, hj, by rw [← h]; simp [getElem!_pos, hj]⟩
  · rintro ⟨j, hj, h⟩; exact ⟨j, hj, by rw [← h]; simp [getElem!_pos, hj]⟩

end Go.Proofs.YtlmbgaconjcaiaaGreat

namespace Go.Proofs
open Go.Shelf
def Tryz.laysNm220_ren : Go.Shelf.Ren := ⟨fun | 20 => 98 | n => n, fun | 22 => 25 | 3 => 3 | 4 => 4 | 0 => 0 | n => n, fun | n => n⟩
theorem Tryz.laysNm220 : Go.Proofs.Lays2.n20 Tryz.prog Tryz.laysNm220_ren := {
  mixed := by kernel_rfl
  f20 := Tryz.func98.trans (congrArg some (by kernel_rfl))
  t0 := Tryz.underlying0
  a0 := Tryz.isAgg0
  z0 := Tryz.sizeOf0
  v0 := Tryz.zeroValue0
  t3 := Tryz.underlying3
  a3 := Tryz.isAgg3
  z3 := Tryz.sizeOf3
  v3 := Tryz.zeroValue3
  t4 := Tryz.underlying4
  a4 := Tryz.isAgg4
  z4 := Tryz.sizeOf4
  v4 := Tryz.zeroValue4
  t22 := Tryz.underlying25
  a22 := Tryz.isAgg25
  z22 := Tryz.sizeOf25
  v22 := Tryz.zeroValue25
  i3 := by kernel_rfl }
end Go.Proofs

namespace Go.Proofs.YtlmbgaconjcaiaaGreat
open Go.RowKit Go.Sort

theorem Row.cells {w : World} {a : Option Addr} {xs : List Int} (h : Row w a xs) : xs = [] ∨ ∃ b off, a = some ⟨b, off, none⟩ ∧ b < w.heap.size ∧ ∀ j, j < xs.length → w.cell? ⟨b, off + j, none⟩ = some (.int .i64 (xs.getD j 0)) := by
  cases xs with
  | nil => exact .inl rfl
  | cons x xs =>
    right
    obtain ⟨b, off, rfl, hb, _⟩ := h 0 (by simp)
    refine ⟨b, off, rfl, hb, fun j hj => ?_⟩
    obtain ⟨b', off', e, _, hc⟩ := h j hj
    cases e
    rw [hc, List.getD_eq_getElem?_getD, List.getElem?_eq_getElem hj]; rfl

theorem compact_any (base : Nat) (v : Value) (xs : List Int) (w : World) (h : Own base w v xs) (hl : xs.length ≤ 20000) (hb : base ≤ w.heap.size) :
    Calls Tryz.prog 98 #[v] w fun e w' => ∃ v', e = .returned v' ∧ Own base w' v' (Lib.compact xs) ∧ Below base w w' := by
  by_cases hv : v = .slice none 0 0
  · have h0 : xs.length = 0 := by
      rcases h.2 with ⟨_, h0⟩ | ⟨g, cap, cur, e, _⟩
      · exact h0
      · rw [hv] at e; cases e
    have hx : xs = [] := List.length_eq_zero_iff.1 h0
    subst hv; subst hx
    refine (Any.slices_Compact_int_empty Tryz.laysNm220 none 0 w).mono ?_
    rintro e w' ⟨rfl, rfl⟩
    exact ⟨_, rfl, World.ownsRow_nil _ _ _ _, Below.refl _ _⟩
  obtain ⟨g, cap, rfl, hbg, hgl, hcap, hcm, _, hH⟩ := Lib.holds_of_ownsRow h hv
  refine (Any.slices_Compact_int Tryz.laysNm220 g 0 cap xs w hH (by omega) hcap).mono ?_
  rintro e w' ⟨rfl, q, rfl⟩
  have hle := Lib.compact_length_le xs
  have hc := Lib.ownsRow_putRow (q := q) (k := (Lib.compact xs).length) (ys := Lib.compact xs ++ List.replicate (xs.length - (Lib.compact xs).length) 0) h (by simp; omega) (by omega)
  rw [List.take_left] at hc
  exact ⟨_, rfl, hc, Lib.below_putRow (Below.refl _ _) hbg⟩

set_option maxHeartbeats 400000 in
theorem compare_any (x y : Int) (w : World) :
    Calls Tryz.prog 104 #[.int .i64 x, .int .i64 y] w fun e w' => e = .returned (.int .i64 (cmpI x y)) ∧ w' = w := by
  go_enter Tryz.func104, Tryz.ntmps104
  go_wp2
  all_goals
    go_ret
    exact ⟨ret_int (by unfold cmpI; split <;> first | rfl | omega | (split <;> first | rfl | omega)), rfl⟩

end Go.Proofs.YtlmbgaconjcaiaaGreat

namespace Go.Proofs.YtlmbgaconjcaiaaGreat
open Go.RowKit

/-- The amount, as 64 bits tell it. -/
def varW (l : Int) : Int := max l (wrap64 (-l))

set_option maxHeartbeats 400000 in
theorem variable_all (l : Int) (w : World) :
    Calls Tryz.prog 103 #[.int .i64 l] w fun e w' => e = .returned (.int .i64 (varW l)) ∧ w' = w := by
  go_enter Tryz.func103, Tryz.ntmps103
  go_wp2
  all_goals
    go_ret
    exact ⟨ret_int (by unfold varW; omega), rfl⟩

/-- How two numbers stand to each other as literals. -/
def litCmpW (a b : Int) : Int := if varW a = varW b then cmpI b a else cmpI (varW a) (varW b)

set_option maxHeartbeats 400000 in
theorem cmpLits_all (a b : Int) (w : World) :
    Calls Tryz.prog 97 #[.int .i64 a, .int .i64 b] w fun e w' => e = .returned (.int .i64 (litCmpW a b)) ∧ w' = w := by
  have c1 := hide (fun w => variable_all a w)
  have c2 := hide (fun w => variable_all b w)
  unfold litCmpW
  generalize varW a = x at *
  generalize varW b = y at *
  by_cases h : x = y
  · have h' : (x != y) = false := by simp [h]
    have HC : Hid ((if x = y then cmpI b a else cmpI x y) = cmpI b a) := if_pos h
    clear h
    generalize (if x = y then cmpI b a else cmpI x y) = r at *
    go_enter Tryz.func97, Tryz.ntmps97
    go_wp2_with (first | (go_at_call_of 103 (Value.int IntKind.i64 a); refine (unhide c1 _).mono ?_; rintro e w' ⟨rfl, rfl⟩) | (go_at_call_of 103 (Value.int IntKind.i64 b); refine (unhide c2 _).mono ?_; rintro e w' ⟨rfl, rfl⟩) | (go_at_call 104; refine (compare_any _ _ _).mono ?_; rintro e w' ⟨rfl, rfl⟩))
    go_ret
    exact ⟨ret_int HC.out.symm, rfl⟩
  · have h' : (x != y) = true := by simp [h]
    have HC : Hid ((if x = y then cmpI b a else cmpI x y) = cmpI x y) := if_neg h
    clear h
    generalize (if x = y then cmpI b a else cmpI x y) = r at *
    go_enter Tryz.func97, Tryz.ntmps97
    go_wp2_with (first | (go_at_call_of 103 (Value.int IntKind.i64 a); refine (unhide c1 _).mono ?_; rintro e w' ⟨rfl, rfl⟩) | (go_at_call_of 103 (Value.int IntKind.i64 b); refine (unhide c2 _).mono ?_; rintro e w' ⟨rfl, rfl⟩) | (go_at_call 104; refine (compare_any _ _ _).mono ?_; rintro e w' ⟨rfl, rfl⟩))
    go_ret
    exact ⟨ret_int HC.out.symm, rfl⟩

theorem cmpI_neg {x y : Int} : cmpI x y < 0 ↔ x < y := by
  unfold cmpI
  split
  · omega
  · split <;> omega

theorem litCmpW_lt {a b : Int} : litCmpW a b < 0 ↔ (varW a < varW b ∨ (varW a = varW b ∧ b < a)) := by
  unfold litCmpW
  split <;> rw [cmpI_neg] <;> omega

theorem varW_lit {l : Int} (h0 : -1048576 ≤ l) (h1 : l ≤ 1048576) : varW l = varI l := by
  unfold varW varI
  have : wrap64 (-l) = -l := IntWalk.wrap64_in _ (by omega)
  rw [this]; split <;> omega

set_option maxHeartbeats 1000000 in
set_option maxRecDepth 100000 in
theorem insertion_none (p : Option Addr) (cap : Nat) (fv : Value) (w : World) :
    Calls Tryz.prog 105 #[.slice p 0 cap, .int .i64 0, .int .i64 0, fv] w fun e w' => e = .returned (.tuple #[]) ∧ w' = w := by
  go_enter Tryz.func105, Tryz.ntmps105
  go_wp2
  refine wp_loop_rounds 1 ?_
  rw [rounds_succ]
  go_wp2
  go_end0
  exact ⟨rfl, rfl⟩

set_option maxHeartbeats 1000000 in
set_option maxRecDepth 100000 in
theorem pdq_none (p : Option Addr) (cap : Nat) (lim : Int) (fv : Value) (w : World) :
    Calls Tryz.prog 101 #[.slice p 0 cap, .int .i64 0, .int .i64 0, .int .i64 lim, fv] w fun e w' => e = .returned (.tuple #[]) ∧ w' = w := by
  go_enter Tryz.func101, Tryz.ntmps101
  go_wp2
  refine wp_loop_rounds 1 ?_
  rw [rounds_succ]
  go_wp2_with (go_at_call 105; refine (insertion_none _ _ _ _).mono ?_; rintro e w' ⟨rfl, rfl⟩)
  (try simp only [Exit.inBlock, Exit.then])
  refine bodyPost_ret (results_none rfl _ _ _) rfl ?_
  exact ⟨rfl, rfl⟩

set_option maxHeartbeats 1000000 in
set_option maxRecDepth 100000 in
theorem len64_zero (w : World) : Calls Tryz.prog 114 #[.int .u64 0] w fun e w' => (∃ n : Int, e = .returned (.int .i64 n)) ∧ w' = w := by
  go_enter Tryz.func114, Tryz.ntmps114
  go_wp2
  go_ret
  exact ⟨⟨_, rfl⟩, rfl⟩

set_option maxHeartbeats 1000000 in
set_option maxRecDepth 100000 in
theorem len_zero (w : World) : Calls Tryz.prog 102 #[.int .u64 0] w fun e w' => (∃ n : Int, e = .returned (.int .i64 n)) ∧ w' = w := by
  go_enter Tryz.func102, Tryz.ntmps102
  go_wp2_with (go_at_call 114; refine (len64_zero _).mono ?_; rintro e w' ⟨⟨n, rfl⟩, rfl⟩)
  go_ret
  exact ⟨⟨_, rfl⟩, rfl⟩

set_option maxHeartbeats 1000000 in
set_option maxRecDepth 100000 in
/-- Sorting no number. -/
theorem sort_none (a : Option Addr) (cap : Nat) (fv : Value) (w : World) :
    Calls Tryz.prog 96 #[.slice a 0 cap, fv] w fun e w' => e = .returned (.tuple #[]) ∧ w' = w := by
  go_enter Tryz.func96, Tryz.ntmps96
  go_wp2_with (first | (go_at_call 102; refine (len_zero _).mono ?_; rintro e w' ⟨⟨n, rfl⟩, rfl⟩) | (go_at_call 101; refine (pdq_none _ _ _ _ _).mono ?_; rintro e w' ⟨rfl, rfl⟩))
  go_end0
  exact ⟨rfl, rfl⟩

end Go.Proofs.YtlmbgaconjcaiaaGreat

namespace Go.Proofs
open Go.Shelf
def Tryz.sortLits_ren : Go.Shelf.Ren := ⟨fun | 6 => 96 | 15 => 102 | 14 => 101 | 28 => 113 | 29 => 114 | 20 => 105 | 21 => 106 | 22 => 107 | 23 => 108 | 24 => 109 | 25 => 110 | 26 => 111 | 27 => 112 | 46 => 116 | 47 => 117 | 48 => 118 | 49 => 119 | 50 => 120 | 57 => 121 | n => n, fun | 22 => 25 | 24 => 3 | 25 => 118 | 3 => 3 | 39 => 104 | 0 => 0 | 53 => 132 | 55 => 134 | 4 => 4 | 46 => 125 | 45 => 124 | 50 => 129 | 5 => 5 | 9 => 9 | 66 => 135 | 70 => 139 | 76 => 141 | 77 => 96 | n => n, fun | n => n⟩
theorem Tryz.sortLits : Go.Proofs.SlLaysF.n6 Tryz.prog Tryz.sortLits_ren := {
  mixed := by kernel_rfl
  f6 := ⟨Tryz.f96.name, by decide, Tryz.func96.trans (congrArg some (by kernel_rfl))⟩
  f14 := ⟨Tryz.f101.name, by decide, Tryz.func101.trans (congrArg some (by kernel_rfl))⟩
  f15 := Tryz.func102.trans (congrArg some (by kernel_rfl))
  f20 := ⟨Tryz.f105.name, by decide, Tryz.func105.trans (congrArg some (by kernel_rfl))⟩
  f21 := ⟨Tryz.f106.name, by decide, Tryz.func106.trans (congrArg some (by kernel_rfl))⟩
  f22 := ⟨Tryz.f107.name, by decide, Tryz.func107.trans (congrArg some (by kernel_rfl))⟩
  f23 := ⟨Tryz.f108.name, by decide, Tryz.func108.trans (congrArg some (by kernel_rfl))⟩
  f24 := ⟨Tryz.f109.name, by decide, Tryz.func109.trans (congrArg some (by kernel_rfl))⟩
  f25 := ⟨Tryz.f110.name, by decide, Tryz.func110.trans (congrArg some (by kernel_rfl))⟩
  f26 := ⟨Tryz.f111.name, by decide, Tryz.func111.trans (congrArg some (by kernel_rfl))⟩
  f27 := ⟨Tryz.f112.name, by decide, Tryz.func112.trans (congrArg some (by kernel_rfl))⟩
  f28 := Tryz.func113.trans (congrArg some (by kernel_rfl))
  f29 := Tryz.func114.trans (congrArg some (by kernel_rfl))
  f46 := ⟨Tryz.f116.name, by decide, Tryz.func116.trans (congrArg some (by kernel_rfl))⟩
  f47 := Tryz.func117.trans (congrArg some (by kernel_rfl))
  f48 := Tryz.func118.trans (congrArg some (by kernel_rfl))
  f49 := ⟨Tryz.f119.name, by decide, Tryz.func119.trans (congrArg some (by kernel_rfl))⟩
  f50 := ⟨Tryz.f120.name, by decide, Tryz.func120.trans (congrArg some (by kernel_rfl))⟩
  f57 := ⟨Tryz.f121.name, by decide, Tryz.func121.trans (congrArg some (by kernel_rfl))⟩
  t0 := Tryz.underlying0
  a0 := Tryz.isAgg0
  z0 := Tryz.sizeOf0
  v0 := Tryz.zeroValue0
  t3 := Tryz.underlying3
  a3 := Tryz.isAgg3
  z3 := Tryz.sizeOf3
  v3 := Tryz.zeroValue3
  t4 := Tryz.underlying4
  a4 := Tryz.isAgg4
  z4 := Tryz.sizeOf4
  v4 := Tryz.zeroValue4
  t5 := Tryz.underlying5
  a5 := Tryz.isAgg5
  z5 := Tryz.sizeOf5
  v5 := Tryz.zeroValue5
  t9 := Tryz.underlying9
  a9 := Tryz.isAgg9
  z9 := Tryz.sizeOf9
  v9 := Tryz.zeroValue9
  t22 := Tryz.underlying25
  a22 := Tryz.isAgg25
  z22 := Tryz.sizeOf25
  v22 := Tryz.zeroValue25
  a24 := Tryz.isAgg3
  z24 := Tryz.sizeOf3
  t25 := Tryz.underlying118
  a25 := Tryz.isAgg118
  z25 := Tryz.sizeOf118
  v25 := Tryz.zeroValue118
  t39 := Tryz.underlying104
  a39 := Tryz.isAgg104
  z39 := Tryz.sizeOf104
  v39 := Tryz.zeroValue104
  t45 := Tryz.underlying124
  a45 := Tryz.isAgg124
  z45 := Tryz.sizeOf124
  v45 := Tryz.zeroValue124
  t46 := Tryz.underlying125
  a46 := Tryz.isAgg125
  z46 := Tryz.sizeOf125
  v46 := Tryz.zeroValue125
  t50 := Tryz.underlying129
  a50 := Tryz.isAgg129
  z50 := Tryz.sizeOf129
  v50 := Tryz.zeroValue129
  t53 := Tryz.underlying132
  a53 := Tryz.isAgg132
  z53 := Tryz.sizeOf132
  v53 := Tryz.zeroValue132
  t55 := Tryz.underlying134
  a55 := Tryz.isAgg134
  z55 := Tryz.sizeOf134
  v55 := Tryz.zeroValue134
  t66 := Tryz.underlying135
  a66 := Tryz.isAgg135
  z66 := Tryz.sizeOf135
  v66 := Tryz.zeroValue135
  t70 := Tryz.underlying139
  a70 := Tryz.isAgg139
  z70 := Tryz.sizeOf139
  v70 := Tryz.zeroValue139
  t76 := Tryz.underlying141
  a76 := Tryz.isAgg141
  z76 := Tryz.sizeOf141
  v76 := Tryz.zeroValue141
  t77 := Tryz.underlying96
  a77 := Tryz.isAgg96
  z77 := Tryz.sizeOf96
  v77 := Tryz.zeroValue96 }
end Go.Proofs

namespace Go.Proofs.YtlmbgaconjcaiaaGreat
open Go.RowKit Go.Sort Go.Shelf

theorem grown_grow (w : World) (os : Array Obj) : w.grownBy (grow w os) none :=
  ⟨rfl, rfl, rfl, by simp [grow], fun k hk _ => by simp [grow, Array.getElem?_append, hk]⟩

theorem swo_lits : SWO (ltOf litCmpW) where
  irrefl x := by simp only [ltOf, decide_eq_false_iff_not, litCmpW_lt]; omega
  trans x y z h1 h2 := by simp only [ltOf, decide_eq_true_eq, litCmpW_lt] at *; omega
  ntrans x y z h1 h2 := by simp only [ltOf, decide_eq_false_iff_not, litCmpW_lt] at *; omega

theorem lt_ahead {a b : Int} (ha : -1048576 ≤ a ∧ a ≤ 1048576) (hb : -1048576 ≤ b ∧ b ≤ 1048576) : ltOf litCmpW a b = aheadB a b := by
  rw [Bool.eq_iff_iff, ahead_iff]
  simp only [ltOf, decide_eq_true_eq, litCmpW_lt]
  rw [varW_lit ha.1 ha.2, varW_lit hb.1 hb.2]

theorem sort_any (base : Nat) (v : Value) (xs : List Int) (w : World) (h : Own base w v xs) (hx : Lits xs) (hl : xs.length ≤ 20000) (hb : base ≤ w.heap.size) :
    Calls Tryz.prog 96 #[v, .func (.func 97) #[] #[]] w fun e w' => e = .returned (.tuple #[]) ∧ ∃ ys : List Int, (∀ x, x ∈ ys ↔ x ∈ xs) ∧ ys.length = xs.length ∧
      (∀ i j, i < j → j < ys.length → aheadB ys.toArray[j]! ys.toArray[i]! = false) ∧ Own base w' v ys ∧ Below base w w' := by
  by_cases hv : v = .slice none 0 0
  · have h0 : xs.length = 0 := by
      rcases h.2 with ⟨_, h0⟩ | ⟨g, cap, cur, e, _⟩
      · exact h0
      · rw [hv] at e; cases e
    have hx : xs = [] := List.length_eq_zero_iff.1 h0
    subst hv; subst hx
    refine (sort_none none 0 _ w).mono ?_
    rintro e w' ⟨rfl, rfl⟩
    exact ⟨rfl, [], by simp, rfl, by simp, World.ownsRow_nil _ _ _ _, Below.refl _ _⟩
  obtain ⟨g, cap, rfl, hbg, hgl, hcap, hcm, _, hH⟩ := Lib.holds_of_ownsRow h hv
  have eg : ∀ args w, (callFunc 97 args).run Tryz.prog w = .ok (.enter 97 args) w := enters_of Tryz.func97 (by kernel_rfl) rfl
  have hcmp : CmpLays1 Tryz.prog 97 #[] (Value.int .i64) litCmpW g 0 xs.toArray.size w :=
    fun m os dk _ x y => (cmpLits_all x y _).mono fun _ _ ⟨he, hw⟩ => ⟨he, 0, #[], by rw [hw, grow_empty]; rfl⟩
  have hcon := Any.slices_SortFunc Tryz.sortLits (Value.int .i64) (fun _ => rfl) litCmpW swo_lits 97 #[] g 0 cap xs.toArray w eg hcmp hH hgl (by simp; omega)
  have hs : xs.toArray.size = xs.length := by simp
  rw [hs] at hcon
  refine Calls.mono (f := 96) hcon ?_
  rintro e w' ⟨rfl, d', n, os, hp, hso, rfl⟩
  have hsz : d'.size = xs.length := by rw [hp.1, hs]
  have hperm : d'.toList.Perm xs := by
    have := hp.2.2
    simp at this
    rw [List.take_of_length_le (by simp; omega)] at this
    exact this
  refine ⟨rfl, d'.toList, fun x => hperm.mem_iff, by simpa using hsz, ?_, ?_, ?_⟩
  · intro i j hij hj
    have hj' : j < d'.size := by simpa using hj
    have := hso i j (Nat.zero_le _) hij (by omega)
    rw [Array.toArray_toList]
    rw [← lt_ahead]
    · exact this
    · refine hx _ (hperm.mem_iff.1 ?_)
      simp [getElem!_pos, hj']
    · refine hx _ (hperm.mem_iff.1 ?_)
      have hi' : i < d'.size := by omega
      simp [getElem!_pos, hi']
  · have hc := Lib.ownsRow_putRow (q := n) (k := xs.length) (ys := d'.toList) h (by simpa using hsz) (Nat.le_refl _)
    rw [List.take_of_length_le (by simp; omega), Array.toArray_toList] at hc
    have hl' : d'.toList.length = xs.length := by simpa using hsz
    unfold Own
    rw [hl']
    exact World.ownsRow.kept hc (grown_grow _ os) (by right; simp [Value.ownBlock])
  · exact (Lib.below_putRow (Below.refl _ _) hbg).grown (grown_grow _ os) (by simp [putRow, mapBlock, Sort.ahead]; omega) (by intro k hk; cases hk)

set_option maxHeartbeats 400000 in
theorem inOrder_any (base : Nat) (v : Value) (xs : List Int) (w : World) (h : Own base w v xs) (hx : Lits xs) (hl : xs.length ≤ 20000) (hb : base ≤ w.heap.size) :
    Calls Tryz.prog 91 #[v] w fun e w' => ∃ v', e = .returned v' ∧ Own base w' v' (order xs) ∧ Below base w w' := by
  have hs := hide (sort_any base v xs w h hx hl hb)
  clear h
  go_enter Tryz.func91, Tryz.ntmps91
  go_wp2_with fail
  refine (unhide hs).mono ?_
  rintro e w1 ⟨rfl, ys, hm, hyl, hso, hown, hbel⟩
  have hc := hide (compact_any base v ys w1 hown (by omega) (Nat.le_trans hb hbel.size))
  have HE := hide (compact_order hm hso)
  clear hm hso hown hs hyl
  go_wp2_with fail
  refine (unhide hc).mono ?_
  rintro e w2 ⟨v', rfl, hown, hbel2⟩
  go_wp2
  go_ret
  exact ⟨_, rfl, by rw [← HE.out]; exact hown, hbel.trans hbel2⟩

end Go.Proofs.YtlmbgaconjcaiaaGreat

namespace Go.Proofs.YtlmbgaconjcaiaaGreat

theorem tautB_iff {c : List Int} : tautB c = true ↔ ∃ x, x ∈ c ∧ -x ∈ c := by simp [tautB, hasB_iff]

theorem tautB_same {c d : List Int} (h : ∀ x, x ∈ c ↔ x ∈ d) : tautB c = tautB d := by
  rw [Bool.eq_iff_iff, tautB_iff, tautB_iff]
  constructor
  · rintro ⟨x, h1, h2⟩; exact ⟨x, (h _).1 h1, (h _).1 h2⟩
  · rintro ⟨x, h1, h2⟩; exact ⟨x, (h _).2 h1, (h _).2 h2⟩

theorem taut_side {ns : List Int} {i : Nat} (h1 : 1 ≤ i) (h : i < ns.length) (he : ns[i] = -(ns[i - 1]'(by omega))) : tautB ns = true :=
  tautB_iff.2 ⟨ns[i - 1]'(by omega), List.getElem_mem _, by rw [← he]; exact List.getElem_mem _⟩

theorem ordered_lt {ns : List Int} (ho : Ordered ns) {i j : Nat} (hi : i < ns.length) (hj : j < ns.length) (hij : i < j) : aheadB ns[i] ns[j] = true := List.pairwise_iff_getElem.1 ho i j hi hj hij

theorem no_taut {ns : List Int} (ho : Ordered ns) (hz : ∀ x ∈ ns, x ≠ 0) (h : ∀ i (h1 : 1 ≤ i) (h2 : i < ns.length), ns[i] ≠ -(ns[i - 1]'(by omega))) : tautB ns = false := by
  rw [← Bool.not_eq_true, tautB_iff]
  rintro ⟨x0, a0, b0⟩
  obtain ⟨x, a, b, hx⟩ : ∃ x, x ∈ ns ∧ -x ∈ ns ∧ 0 < x := by
    have := hz x0 a0
    rcases Int.lt_or_lt_of_ne this with hlt | hlt
    · exact ⟨-x0, b0, by rw [Int.neg_neg]; exact a0, by omega⟩
    · exact ⟨x0, a0, b0, hlt⟩
  obtain ⟨i, hi, e1⟩ := List.mem_iff_getElem.1 a
  obtain ⟨j, hj, e2⟩ := List.mem_iff_getElem.1 b
  have va := varI_eq x
  have vb := varI_eq (-x)
  have hax : aheadB x (-x) = true := by rw [ahead_iff]; omega
  rcases Nat.lt_trichotomy i j with hij | hij | hij
  · rcases Nat.lt_or_ge (i + 1) j with h' | h'
    · have p := ordered_lt ho hi (j := i + 1) (by omega) (by omega)
      have q := ordered_lt ho (i := i + 1) (by omega) hj h'
      rw [e1] at p
      rw [e2] at q
      rw [ahead_iff] at p q
      have vy := varI_eq ns[i + 1]
      have := h (i + 1) (by omega) (by omega)
      simp only [Nat.add_sub_cancel, e1] at this
      omega
    · have : j = i + 1 := by omega
      subst this
      have := h (i + 1) (by omega) hj
      simp only [Nat.add_sub_cancel, e1, e2] at this
      exact this rfl
  · subst hij
    rw [e1] at e2
    omega
  · have p := ordered_lt ho hj hi hij
    rw [e1, e2] at p
    have := ahead_trans hax p
    rw [ahead_irrefl] at this
    cases this

theorem order_lits {c : List Int} (h : Lits c) : Lits (order c) := fun x hx => h x (order_mem.1 hx)
theorem order_nz {c : List Int} (h : mayB c 1048576 = true) : ∀ x ∈ order c, x ≠ 0 := fun x hx => (litB_true.1 (mayB_lit h x (order_mem.1 hx))).1
theorem order_taut (c : List Int) : tautB (order c) = tautB c := tautB_same fun _ => order_mem
theorem order_may {c : List Int} (h : mayB c 1048576 = true) : mayB (order c) 1048576 = true :=
  mayB_of (Nat.le_trans (order_len c) (mayB_len h)) (by rw [List.all_eq_true]; exact fun x hx => mayB_lit h x (order_mem.1 hx))

theorem clauseI_same {m c d : List Int} (h : ∀ x, x ∈ c ↔ x ∈ d) : clauseI m c = clauseI m d := by
  have e : ∀ p : Int → Bool, c.any p = d.any p := fun p => by
    rw [Bool.eq_iff_iff, List.any_eq_true, List.any_eq_true]
    constructor
    · rintro ⟨x, h1, h2⟩; exact ⟨x, (h x).1 h1, h2⟩
    · rintro ⟨x, h1, h2⟩; exact ⟨x, (h x).2 h1, h2⟩
  unfold clauseI; rw [e, e]

theorem clauseI_order (m c : List Int) : clauseI m (order c) = clauseI m c := clauseI_same fun _ => order_mem

end Go.Proofs.YtlmbgaconjcaiaaGreat

namespace Go.Proofs.YtlmbgaconjcaiaaGreat
open Go.RowKit

set_option maxHeartbeats 400000 in
theorem norm_no (a : Option Addr) (cap : Nat) (xs : List Int) (w : World) (hr : Row w a xs) (hl : xs.length ≤ maxLen) (hmay : mayB xs 1048576 = false) :
    Calls Tryz.prog 83 #[.slice a xs.length cap] w fun e w' => e = .returned (.tuple #[.slice none 0 0, .bool false]) ∧ w' = w := by
  have hck := checkLit_any a cap xs w hr hl
  have he : (if mayB xs 1048576 = true then (0 : Int) else 1) = 1 := by rw [hmay]; rfl
  rw [he] at hck
  have HC := hide hck
  clear he hck hr
  go_enter Tryz.func83, Tryz.ntmps83
  go_wp2_with (go_at_call 57; refine (unhide HC).mono ?_; rintro e w' ⟨rfl, rfl⟩)
  go_ret2
  exact ⟨rfl, rfl⟩

set_option maxHeartbeats 800000 in
theorem norm_yes (a : Option Addr) (cap : Nat) (xs : List Int) (w : World) (hr : Row w a xs) (hl : xs.length ≤ 5000) (hcap : a = none → cap = 0) (hmay : mayB xs 1048576 = true) :
    Calls Tryz.prog 83 #[.slice a xs.length cap] w fun e w' => ∃ v, e = .returned (.tuple #[v, .bool (tautB xs)]) ∧ Own w.heap.size w' v (order xs) ∧ Below w.heap.size w w' := by
  have hck := checkLit_any a cap xs w hr (by unfold maxLen; omega)
  have he : (if mayB xs 1048576 = true then (0 : Int) else 1) = 0 := by rw [hmay]; rfl
  rw [he] at hck
  have HC := hide hck
  have HK := hide (clone_any a cap xs w hr (by omega) hcap)
  have hli := lits_of hmay
  have hol := order_len xs
  have HO := hide (order_ordered xs)
  have HZ := hide (order_nz hmay)
  have HT := hide (order_taut xs)
  have hon := order_lits hli
  clear he hck hr
  go_enter Tryz.func83, Tryz.ntmps83
  go_wp2_with fail
  refine (unhide HC).mono ?_
  rintro e w0 ⟨rfl, hw0⟩
  subst w0
  go_wp2_with fail
  refine (unhide HK).mono ?_
  rintro e w1 ⟨v1, rfl, hown1, hbel1⟩
  have HI := hide (inOrder_any w.heap.size v1 xs w1 hown1 hli (by omega) hbel1.size)
  clear hown1 hli HC HK
  go_wp2_with fail
  refine (unhide HI).mono ?_
  rintro e w2 ⟨v2, rfl, hown2, hbel2⟩
  clear HI
  obtain ⟨a2, cap2, rfl, hrow2, hml, hcap2⟩ := hown2.row
  have hbel := hbel1.trans hbel2
  clear hbel1 hbel2
  generalize hns : order xs = ns at *
  have HNS := hide hns
  clear hns
  have HOW := hide hown2
  clear hown2
  unfold maxLen at hml
  go_wp2
  go_loopw [5] (fun i wr => ∃ k n : Nat, 1 ≤ k ∧ (k = 1 ∨ k ≤ ns.length) ∧ i = .int .i64 k ∧ (∀ i (h1 : 1 ≤ i) (h2 : i < ns.length), i < k → ns[i] ≠ -(ns[i - 1]'(by omega))) ∧ wr = w2.drewN n) (fun i _ => ns.length + 1 - (intOf i).toNat)
  case atStart => exact ⟨1, 0, Nat.le_refl _, .inl rfl, rfl, fun i h1 h2 h3 => by omega, rfl⟩
  case round =>
    obtain ⟨k, n, hk1, hk2, rfl, hno, rfl⟩ := hrel
    have HN := hide hno
    clear hno
    by_cases hlt : k < ns.length
    · obtain ⟨b, off, rfl, hb, hc⟩ := hrow2 k hlt
      obtain ⟨b', off', eq, hb', hc'⟩ := hrow2 (k - 1) (by omega)
      cases eq
      clear hrow2
      have hbd := hon (ns[k - 1]'(by omega)) (List.getElem_mem _)
      obtain ⟨hbd1, hbd2⟩ := hbd
      generalize hx : ns[k] = x at *
      generalize hy : ns[k - 1]'(by omega) = y at *
      by_cases he : x = -y
      · have he' : (x == -y) = true := by simp [he]
        have HF : Hid (tautB xs = true) := by show _ = _; rw [← HT.out]; exact taut_side hk1 hlt (by rw [hx, hy]; exact he)
        clear he hx hy
        go_wp2
        go_quiet (fail)
        go_wp2
        go_ret2
        refine ⟨.slice (some ⟨b, off, none⟩) ns.length cap2, ?_, ?_, bquiet (bquiet hbel _) _⟩
        · rw [HF.out]; rfl
        · rw [HNS.out]; exact HOW.out
      · have he' : (x == -y) = false := by simp [he]
        have HF : Hid (∀ i (h1 : 1 ≤ i) (h2 : i < ns.length), i < k + 1 → ns[i] ≠ -(ns[i - 1]'(by omega))) := by
          intro i h1 h2 h3
          rcases Nat.lt_or_ge i k with h | h
          · exact HN.out i h1 h2 h
          · have e : i = k := by omega
            subst e
            rw [hx, hy]; exact he
        clear he hx hy HN
        go_wp2
        go_quiet (fail)
        go_wp2
        go_roundw
        case rel => exact ⟨k + 1, _, by omega, .inr (by omega), by go_num, HF.out, rfl⟩
        case measure => simp [intOf]; omega
    · have HF : Hid (tautB xs = false) := by
        show _ = _
        rw [← HT.out]
        exact no_taut HO.out HZ.out fun i h1 h2 => HN.out i h1 h2 (by omega)
      clear hrow2 HN
      go_wp2
      go_ret2
      refine ⟨.slice a2 ns.length cap2, ?_, ?_, bquiet hbel _⟩
      · rw [HF.out]; rfl
      · rw [HNS.out]; exact HOW.out

end Go.Proofs.YtlmbgaconjcaiaaGreat

namespace Go.Proofs.YtlmbgaconjcaiaaGreat

/-- The three bytes of a literal. -/
def b3 (l : Int) : List UInt8 := [UInt8.ofNat (l % 256).toNat, UInt8.ofNat (l / 256 % 256).toNat, UInt8.ofNat (l / 65536 % 256).toNat]
def txt (xs : List Int) : ByteArray := ⟨(xs.flatMap b3).toArray⟩
theorem b3_inj {l m : Int} (hl : -8388608 ≤ l ∧ l < 8388608) (hm : -8388608 ≤ m ∧ m < 8388608) (h : b3 l = b3 m) : l = m := by
  have f : ∀ x : Int, (UInt8.ofNat (x % 256).toNat).toNat = (x % 256).toNat := fun x => by
    rw [UInt8.toNat_ofNat']
    omega
  simp only [b3, List.cons.injEq, and_true] at h
  obtain ⟨h1, h2, h3⟩ := h
  have a1 := congrArg UInt8.toNat h1
  have a2 := congrArg UInt8.toNat h2
  have a3 := congrArg UInt8.toNat h3
  rw [f, f] at a1 a2 a3
  omega
theorem flat_inj : ∀ (xs ys : List Int), (∀ x ∈ xs, -8388608 ≤ x ∧ x < 8388608) → (∀ y ∈ ys, -8388608 ≤ y ∧ y < 8388608) → xs.flatMap b3 = ys.flatMap b3 → xs = ys
  | [], [], _, _, _ => rfl
  | [], y :: ys, _, _, h => by simp [b3] at h
  | x :: xs, [], _, _, h => by simp [b3] at h
  | x :: xs, y :: ys, hx, hy, h => by
    rw [List.flatMap_cons, List.flatMap_cons] at h
    have h1 : b3 x = b3 y := (List.append_inj h rfl).1
    have h2 := (List.append_inj h rfl).2
    rw [b3_inj (hx x (by simp)) (hy y (by simp)) h1, flat_inj xs ys (fun z hz => hx z (List.mem_cons_of_mem _ hz)) (fun z hz => hy z (List.mem_cons_of_mem _ hz)) h2]
theorem txt_inj {xs ys : List Int} (hx : ∀ x ∈ xs, -8388608 ≤ x ∧ x < 8388608) (hy : ∀ y ∈ ys, -8388608 ≤ y ∧ y < 8388608) (h : txt xs = txt ys) : xs = ys := by
  refine flat_inj xs ys hx hy ?_
  have := congrArg (fun b : ByteArray => b.data.toList) h
  simpa [txt] using this
theorem txt_size (xs : List Int) : (txt xs).size = 3 * xs.length := by
  have : ∀ ys : List Int, (ys.flatMap b3).length = 3 * ys.length := fun ys => by
    induction ys with
    | nil => rfl
    | cons y r ih => rw [List.flatMap_cons, List.length_append, ih, List.length_cons]; show 3 + _ = _; omega
  show ((xs.flatMap b3).toArray).size = _
  simp [this]
end Go.Proofs.YtlmbgaconjcaiaaGreat

namespace Go.Proofs.YtlmbgaconjcaiaaGreat
open Go.RowKit

theorem Tryz.info5 : (Tryz.prog.info? 5).map (fun i => (i.zero, i.size, i.bytes)) = some (some (.int .u8 0), 1, 1) := by kernel_rfl

/-- A literal's three bytes, as cells. -/
def by3 (l : Int) : List Value := [.int .u8 (l % 256), .int .u8 (l / 256 % 256), .int .u8 (l / 65536 % 256)]
theorem by3_eq (l : Int) : by3 l = (b3 l).map fun c => Value.int .u8 (c.toNat : Int) := by
  have f : ∀ x : Int, ((UInt8.ofNat (x % 256).toNat).toNat : Int) = x % 256 := fun x => by
    rw [UInt8.toNat_ofNat']
    omega
  simp only [by3, b3, List.map_cons, List.map_nil, f]
theorem by3_flat (xs : List Int) : xs.flatMap by3 = (xs.flatMap b3).map fun c => Value.int .u8 (c.toNat : Int) := by
  induction xs with
  | nil => rfl
  | cons x r ih => rw [List.flatMap_cons, List.flatMap_cons, List.map_append, ih, by3_eq]
theorem by3_len (xs : List Int) : (xs.flatMap by3).length = 3 * xs.length := by
  induction xs with
  | nil => rfl
  | cons x r ih => rw [List.flatMap_cons, List.length_append, ih, List.length_cons]; show 3 + _ = _; omega

/-- The bytes of a row's first literals. -/
def OwnB (base : Nat) (w : World) (v : Value) (xs : List Int) : Prop := w.ownsRow base 5 1 v (3 * xs.length) (xs.flatMap by3)

theorem ownB_snoc {base : Nat} {w : World} {v : Value} {xs : List Int} {k : Nat} (hk : k < xs.length) (h : w.ownsRow base 5 1 v (3 * (xs.take k).length + 3) ((xs.take k).flatMap by3 ++ by3 xs[k])) : OwnB base w v (xs.take (k + 1)) := by
  unfold OwnB
  rw [List.take_succ_eq_append_getElem hk, List.flatMap_append, List.length_append]
  simpa [Nat.mul_add] using h

theorem ownB_str {base : Nat} {w : World} {v : Value} {xs : List Int} (h : OwnB base w v xs) (hv : v ≠ .slice none 0 0) : (convert 103 9 v).run Tryz.prog w = .ok (.string (txt xs)) w := by
  unfold OwnB at h
  rcases h.2 with ⟨e, _⟩ | ⟨g, cap, cur, rfl, hb, hg, hn, hm, hs, ht⟩
  · exact absurd e hv
  · have hl : (xs.flatMap b3).length = 3 * xs.length := by
      have := by3_len xs
      rw [by3_flat, List.length_map] at this
      exact this
    rw [← hl]
    refine run_convert_bytes_back (P := Tryz.prog) w 103 9 5 ⟨g, 0, none⟩ cap (xs.flatMap b3) Tryz.underlying103 Tryz.underlying5 Tryz.underlying9 (fun j hj => ?_)
    refine World.ownsRow.cells h rfl j _ ?_
    rw [by3_flat, List.getElem?_map, List.getElem?_eq_getElem hj]
    rfl

set_option maxRecDepth 4000 in
set_option maxHeartbeats 1000000 in
theorem common_any (a : Option Addr) (cap : Nat) (c : List Int) (w : World) (hr : Row w a c) (hl : c.length ≤ 4096) (hcap : a = none → cap = 0) (hc : mayB c 1048576 = true) :
    Calls Tryz.prog 71 #[.slice a c.length cap] w fun e w' => e = .returned (.string (txt (order c))) ∧ Below w.heap.size w w' := by
  obtain ⟨i0, hi, hz0, hz1, hz2⟩ := info_parts Tryz.info5
  have HN := hide (norm_yes a cap c w hr (by omega) hcap hc)
  have hol := order_len c
  clear hr hcap
  go_enter Tryz.func71, Tryz.ntmps71
  go_wp2_with fail
  refine (unhide HN).mono ?_
  rintro e w1 ⟨v1, rfl, hown1, hbel1⟩
  clear HN
  obtain ⟨a1, cap1, rfl, hrow1, hml, hcap1⟩ := hown1.row
  have HLN := hide (order_lits (lits_of hc))
  generalize hns : order c = ns at *
  clear hown1
  have hmk := run_make w1 103 5 i0 (.int .u8 0) Tryz.underlying103 hi hz0 .i64 .i64 0 (3 * (ns.length : Int)) (by omega) (by omega) (by rw [hz2]; omega) (by omega)
  rw [hz1] at hmk
  have etn : (3 * (ns.length : Int)).toNat = 3 * ns.length := by omega
  simp [Value.cells] at hmk
  rw [etn] at hmk
  have hown0 : OwnB w1.heap.size (w1.alloc (.cells (madeCells #[.int .u8 0] (3 * ns.length)) 5)) (.slice (some ⟨w1.heap.size, 0, none⟩) 0 (3 * ns.length)) [] :=
    ⟨rfl, .inr ⟨w1.heap.size, 3 * ns.length, _, rfl, Nat.le_refl _, heap_alloc_new w1 _, Nat.zero_le _, by unfold maxLen; omega, by simp [size_madeCells], rfl⟩⟩
  have HO := hide hown0
  clear hown0
  go_wp2
  go_loopw [5, 19] (fun v i wr => ∃ k : Nat, k ≤ ns.length ∧ i = .int .i64 k ∧ OwnB w1.heap.size wr v (ns.take k) ∧ v ≠ .slice none 0 0 ∧ Below w1.heap.size w1 wr) (fun _ i _ => ns.length - (intOf i).toNat)
  case atStart => exact ⟨0, Nat.zero_le _, rfl, HO.out, (by simp), (Below.refl _ _).alloc (Nat.le_refl _) _⟩
  case round =>
    obtain ⟨k, hk, rfl, hown, hnn, hbel⟩ := hrel
    clear HO hmk
    by_cases hlt : k < ns.length
    · obtain ⟨b, off, rfl, hb, hc⟩ := hrow1 k hlt
      clear hrow1
      have hc' := (hbel.cell (p := ⟨b, off + k, none⟩) hb).trans hc
      have hkl : (ns.take k).length = k := List.length_take_of_le hk
      have HKL := hide hkl
      clear hc hb
      have hln := HLN.out ns[k] (List.getElem_mem hlt)
      have HSN := hide (fun (W : World) (u : Value) h => ownB_snoc (base := w1.heap.size) (w := W) (v := u) hlt h)
      generalize ns[k] = l at hc' hln HSN
      have HOW := hide hown
      have HBL := hide hbel
      have hwl : 3 * (ns.take k).length + 3 ≤ 20000 := by rw [hkl]; omega
      clear hown hkl HKL hbel
      have HSZ := hide HBL.out.size
      go_wp2_with (at_builtin; refine wpList_append_own _ rfl _ _ 103 rfl w1.heap.size 5 i0 (.int .u8 0) 1 1 Tryz.underlying103 hi hz0 hz1 hz2 rfl (by decide) _ _ _ rfl (World.ownsRow.alloc HOW.out _) ⟨wr.heap.size, 0, none⟩ 3 3 (by3 l) rfl rfl (World.news_of_block (cs := #[.int .u8 (l % 256), .int .u8 (l / 256 % 256), .int .u8 (l / 65536 % 256)]) (heap_alloc_new wr _)) (fun x hx => by simp [by3] at hx; rcases hx with rfl | rfl | rfl <;> rfl) (by unfold maxLen; omega) (by omega) (by have := HSZ.out; simp; omega) ?_; intro v' w2 hown2 hgrow2 hnil)
      have hnn2 : v' ≠ .slice none 0 0 := fun h => absurd (hnil.1 h).2 (by decide)
      have hown3 := HSN.out w2 v' hown2
      have hbel3 := ((HBL.out.alloc HSZ.out (.cells #[.int .u8 (l % 256), .int .u8 (l / 256 % 256), .int .u8 (l / 65536 % 256)] 5)).grown hgrow2 (by have := HSZ.out; simp; omega) (fun g hg => (HOW.out.lt g hg).1))
      clear hown2 hgrow2 hnil HSN
      go_wp2
      go_roundw
      case rel => exact ⟨k + 1, by omega, by go_num, hown3, hnn2, hbel3⟩
      case measure => simp [intOf]; omega
    · clear hrow1
      rw [List.take_of_length_le (by omega)] at hown
      have hst := ownB_str hown hnn
      go_wp2
      go_ret
      exact ⟨by rw [hns]; rfl, hbel1.trans (hbel.mono hbel1.size)⟩
end Go.Proofs.YtlmbgaconjcaiaaGreat
