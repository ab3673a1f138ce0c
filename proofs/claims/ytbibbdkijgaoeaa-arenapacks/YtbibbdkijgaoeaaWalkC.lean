/- An arena as it lies in memory, and the contracts of the functions that only read it. -/
import Derived.Test.YtbibbdkijgaoeaaWalkB
import Derived.Test.YtbibbdkijgaoeaaPlainR
import Derived.Maps.OwnSet
import Derived.Maps.OwnOps
import Derived.OneCell
import Derived.LaidEqlPtr
set_option linter.unusedVariables false
set_option linter.unusedSimpArgs false
namespace Go.Proofs.Ytbibbdkijgaoeaa
open Go.RowKit Go.Maps

theorem Try.info3 : (Try.prog.info? 3).map (fun i => (i.zero, i.size, i.bytes)) = some (some (.int .i64 0), 1, 8) := by kernel_rfl
theorem Try.info68 : (Try.prog.info? 68).map (·.size) = some 4 := by kernel_rfl
theorem law3 : Keyed Try.prog 3 := int_keyed Try.underlying3
theorem zero70 (w : World) : (zeroValue 70).run Try.prog w = .ok (.agg #[]) w := by kernel_rfl

/-- The four words of an arena's own struct. -/
def headOf (B M : Nat) (rv : Value) (L : List Itm) : Array Value :=
  #[.pointer (some ⟨B, 0, none⟩), rv, .map (some M), .int .i64 (waste L)]

/-- The map of places. -/
def Pls (w : World) (M : Nat) (ps : List Int) : Prop :=
  ∃ D : DataW Unit, w.ownsMap Try.prog 3 unitElem M ps.length D ∧ (∀ k : Int, Maps.has D (.int .i64 k) = decide (k ∈ ps)) ∧ Maps.size D = ps.length

/-- An arena of New's, as it lies in memory: block B its struct, M its map, rv its row. -/
structure Arn (base : Nat) (w : World) (B M : Nat) (rv : Value) (L : List Itm) : Prop where
  lB : base ≤ B
  lM : base ≤ M
  head : w.heap[B]? = some (.cells (headOf B M rv L) 68 (0, 0))
  row : w.ownsRow base 3 1 rv (words L) ((rowOf L).map (Value.int .i64))
  pls : Pls w M (plF 0 L)

theorem Arn.c0 {base : Nat} {w : World} {B M : Nat} {rv : Value} {L : List Itm} (h : Arn base w B M rv L) : w.cell? ⟨B, 0, none⟩ = some (.pointer (some ⟨B, 0, none⟩)) := by simp [World.cell?, h.head, headOf]
theorem Arn.c1 {base : Nat} {w : World} {B M : Nat} {rv : Value} {L : List Itm} (h : Arn base w B M rv L) : w.cell? ⟨B, 1, none⟩ = some rv := by simp [World.cell?, h.head, headOf]
theorem Arn.c2 {base : Nat} {w : World} {B M : Nat} {rv : Value} {L : List Itm} (h : Arn base w B M rv L) : w.cell? ⟨B, 2, none⟩ = some (.map (some M)) := by simp [World.cell?, h.head, headOf]
theorem Arn.c3 {base : Nat} {w : World} {B M : Nat} {rv : Value} {L : List Itm} (h : Arn base w B M rv L) : w.cell? ⟨B, 3, none⟩ = some (.int .i64 (waste L)) := by simp [World.cell?, h.head, headOf]
theorem Arn.fz {base : Nat} {w : World} {B M : Nat} {rv : Value} {L : List Itm} (h : Arn base w B M rv L) (i : Nat) : w.frozen? ⟨B, i, none⟩ = false := by simp [World.frozen?, h.head]
theorem Arn.ltB {base : Nat} {w : World} {B M : Nat} {rv : Value} {L : List Itm} (h : Arn base w B M rv L) : B < w.heap.size := (Array.getElem?_eq_some_iff.1 h.head).1

/-- The row's value is a slice of so many words. -/
theorem Arn.rv {base : Nat} {w : World} {B M : Nat} {rv : Value} {L : List Itm} (h : Arn base w B M rv L) : ∃ a cap, rv = .slice a (words L) cap ∧ Row w a (rowOf L) ∧ words L ≤ cap ∧ cap ≤ maxLen := by
  have hr := h.row
  rcases hr.2 with ⟨e, h0⟩ | ⟨g, cap, cur, e, hb, hg, hn, hm, hs, ht⟩
  · refine ⟨none, 0, by rw [e, h0], ?_, by omega, Nat.zero_le _⟩
    intro i hi; rw [rowOf_len] at hi; omega
  · refine ⟨_, cap, e, ?_, hn, hm⟩
    intro i hi
    refine ⟨g, 0, rfl, (Array.getElem?_eq_some_iff.1 hg).1, ?_⟩
    rw [rowOf_len] at hi
    have := hr.cells (g := g) (by rw [e]; rfl) i (.int .i64 ((rowOf L)[i]'(by rw [rowOf_len]; exact hi))) (by rw [List.getElem?_map, List.getElem?_eq_getElem (by rw [rowOf_len]; exact hi)]; rfl)
    rw [Addr.add_lit] at this
    simpa using this

theorem Row.get {w : World} {a : Option Addr} {xs : List Int} (h : Row w a xs) {i : Nat} {x : Int} (hx : xs[i]? = some x) : ∃ b off, a = some ⟨b, off, none⟩ ∧ b < w.heap.size ∧ w.cell? ⟨b, off + i, none⟩ = some (.int .i64 x) := by
  obtain ⟨hi, e⟩ := List.getElem?_eq_some_iff.1 hx
  obtain ⟨b, off, h1, h2, h3⟩ := h i hi
  exact ⟨b, off, h1, h2, by rw [← e]; exact h3⟩

set_option maxHeartbeats 400000 in
theorem given_any (base : Nat) (w : World) (B M : Nat) (rv : Value) (L : List Itm) (hA : Arn base w B M rv L) :
    Calls Try.prog 32 #[.pointer (some ⟨B, 0, none⟩)] w fun e w' => e = .returned (.bool true) ∧ w' = w := by
  have c0 := hA.c0
  clear hA
  obtain ⟨j, hj, _⟩ := Option.map_eq_some_iff.1 Try.info68
  have heq := run_eql_ptr_same (P := Try.prog) w ⟨B, 0, none⟩ Try.underlying25 hj
  go_enter Try.func32, Try.ntmps32
  go_wp2
  all_goals
    go_ret
    exact ⟨ret_bool (by simp), rfl⟩

set_option maxHeartbeats 400000 in
theorem end_any (base : Nat) (w : World) (B M : Nat) (rv : Value) (A R : List Itm) (it : Itm) (hA : Arn base w B M rv (A ++ it :: R)) (hl : words (A ++ it :: R) ≤ 20000) :
    Calls Try.prog 33 #[.pointer (some ⟨B, 0, none⟩), .int .i64 (words A)] w fun e w' => e = .returned (.int .i64 (words A + 2 + it.1.length)) ∧ w' = w := by
  have c1 := hA.c1
  obtain ⟨a, cap, rfl, hr, hc, hm⟩ := hA.rv
  obtain ⟨b, off, rfl, hb, hcell⟩ := hr.get (rowOf_count A R it)
  have hw : words (A ++ it :: R) = words A + (2 + it.1.length) + words R := by rw [words_append]; simp [words]; omega
  clear hA hr
  generalize words (A ++ it :: R) = N at *
  generalize words A = p at *
  generalize it.1.length = q at *
  go_enter Try.func33, Try.ntmps33
  go_wp2
  all_goals
    go_ret
    exact ⟨ret_int (by simp), rfl⟩

theorem i64_wf {x : Int} (h0 : -9223372036854775808 ≤ x) (h1 : x ≤ 9223372036854775807) : (Lit.int .i64 x).wf = true := WalkArith.wf_i64 (by omega)

set_option maxHeartbeats 400000 in
theorem has_any (base : Nat) (w : World) (B M : Nat) (rv : Value) (L : List Itm) (p : Int) (hA : Arn base w B M rv L) (hp : (Lit.int .i64 p).wf = true) :
    Calls Try.prog 29 #[.pointer (some ⟨B, 0, none⟩), .int .i64 p] w fun e w' => e = .returned (.bool (decide (p ∈ plF 0 L))) ∧ w' = w.alloc (.cells #[] 70) := by
  have c2 := hA.c2
  obtain ⟨D, hown, hhas, hsize⟩ := hA.pls
  have HH := hide (hhas p)
  clear hhas hsize
  have G := hide (given_any base w B M rv L hA)
  clear hA
  go_enter Try.func29, Try.ntmps29
  go_wp2_with (first | (go_at_call 32; refine (unhide G).mono ?_; rintro e w0 ⟨rfl, hw0⟩; subst w0) | (at_lookup; refine wpList_lookup_own_unit _ rfl _ _ 66 rfl 3 70 law3 Try.underlying66 (zero70 _) M _ D rfl hown _ _ rfl (keyOf_int_mk Try.underlying3 hp) ?_))
  all_goals
    go_ret
    exact ⟨ret_bool HH.out, rfl⟩

set_option maxHeartbeats 400000 in
theorem count_any (base : Nat) (w : World) (B M : Nat) (rv : Value) (L : List Itm) (hA : Arn base w B M rv L) :
    Calls Try.prog 13 #[.pointer (some ⟨B, 0, none⟩)] w fun e w' => e = .returned (.int .i64 (plF 0 L).length) ∧ w' = w := by
  have c2 := hA.c2
  obtain ⟨D, hown, hhas, hsize⟩ := hA.pls
  have HH := hide hsize
  clear hhas hsize
  have G := hide (given_any base w B M rv L hA)
  clear hA
  go_enter Try.func13, Try.ntmps13
  go_wp2_with (first | (go_at_call 32; refine (unhide G).mono ?_; rintro e w0 ⟨rfl, hw0⟩; subst w0) | (at_len; refine wpList_len_own _ rfl _ 66 rfl 3 70 Try.underlying66 _ M _ D rfl hown ?_))
  all_goals
    go_ret
    exact ⟨ret_int (by rw [HH.out]), rfl⟩

set_option maxHeartbeats 400000 in
theorem words_any (base : Nat) (w : World) (B M : Nat) (rv : Value) (L : List Itm) (hA : Arn base w B M rv L) :
    Calls Try.prog 18 #[.pointer (some ⟨B, 0, none⟩)] w fun e w' => e = .returned (.int .i64 (words L)) ∧ w' = w := by
  have c1 := hA.c1
  have G := hide (given_any base w B M rv L hA)
  obtain ⟨a, cap, rfl, hr, hc, hm⟩ := hA.rv
  clear hA hr
  go_enter Try.func18, Try.ntmps18
  go_wp2_with (first | (go_at_call 32; refine (unhide G).mono ?_; rintro e w0 ⟨rfl, hw0⟩; subst w0))
  all_goals
    go_ret
    exact ⟨ret_int rfl, rfl⟩

set_option maxHeartbeats 400000 in
theorem waste_any (base : Nat) (w : World) (B M : Nat) (rv : Value) (L : List Itm) (hA : Arn base w B M rv L) :
    Calls Try.prog 15 #[.pointer (some ⟨B, 0, none⟩)] w fun e w' => e = .returned (.int .i64 (waste L)) ∧ w' = w := by
  have c3 := hA.c3
  have G := hide (given_any base w B M rv L hA)
  clear hA
  go_enter Try.func15, Try.ntmps15
  go_wp2_with (first | (go_at_call 32; refine (unhide G).mono ?_; rintro e w0 ⟨rfl, hw0⟩; subst w0))
  all_goals
    go_ret
    exact ⟨ret_int rfl, rfl⟩

set_option maxHeartbeats 400000 in
/-- The slice of a clause's literals within the row: its cells lie in the row's own block. -/
theorem literals_any (base : Nat) (w : World) (B M : Nat) (rv : Value) (A R : List Itm) (it : Itm) (hA : Arn base w B M rv (A ++ it :: R)) (hl : words (A ++ it :: R) ≤ 20000) :
    Calls Try.prog 30 #[.pointer (some ⟨B, 0, none⟩), .int .i64 (words A)] w fun e w' => (∃ a, e = .returned (.slice a it.1.length it.1.length) ∧ (0 < it.1.length → ∃ g, rv.ownBlock = some g ∧ a = some ⟨g, words A + 2, none⟩)) ∧ w' = w := by
  have c1 := hA.c1
  have G := hide (end_any base w B M rv A R it hA hl)
  have hw : words (A ++ it :: R) = words A + (2 + it.1.length) + words R := by rw [words_append]; simp [words]; omega
  rcases hA.row.2 with ⟨e, h0⟩ | ⟨g, cap, cur, rfl, hb, hg, hn, hm, hs, ht⟩
  · omega
  clear hA ht hs hb hg
  unfold maxLen at hm
  generalize words (A ++ it :: R) = N at *
  generalize words A = p at *
  generalize it.1.length = q at *
  go_enter Try.func30, Try.ntmps30
  go_wp2_with (first | (go_at_call 33; refine (unhide G).mono ?_; rintro e w0 ⟨rfl, hw0⟩; subst w0))
  · have hq : q = 0 := by omega
    subst hq
    go_ret
    exact ⟨⟨_, rfl, fun h => absurd h (by omega)⟩, rfl⟩
  · go_ret
    exact ⟨⟨_, rfl, fun _ => ⟨g, rfl, rfl⟩⟩, rfl⟩

end Go.Proofs.Ytbibbdkijgaoeaa
