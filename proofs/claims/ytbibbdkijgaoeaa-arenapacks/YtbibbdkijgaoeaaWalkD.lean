/- Contracts: a new arena; the clause at a place; the places. -/
import Derived.Test.YtbibbdkijgaoeaaWalkC
import Derived.Laws.CopyOwn
set_option linter.unusedVariables false
set_option linter.unusedSimpArgs false
namespace Go.Proofs.Ytbibbdkijgaoeaa
open Go.RowKit Go.Maps

/-- A slice of the call's own that holds these numbers. -/
def Own (base : Nat) (w : World) (v : Value) (xs : List Int) : Prop := w.ownsRow base 3 1 v xs.length (xs.map (Value.int .i64))

theorem Own.row {base : Nat} {w : World} {v : Value} {xs : List Int} (h : Own base w v xs) : ∃ a cap, v = .slice a xs.length cap ∧ Row w a xs ∧ xs.length ≤ maxLen ∧ xs.length ≤ cap := by
  have h' := h
  unfold Own at h
  rcases h.2 with ⟨rfl, h0⟩ | ⟨g, cap, cur, rfl, hb, hg, hn, hm, hs, ht⟩
  · refine ⟨none, 0, by rw [h0], ?_, by rw [h0]; exact Nat.zero_le _, by omega⟩
    intro i hi; omega
  · refine ⟨_, cap, rfl, ?_, Nat.le_trans hn hm, hn⟩
    intro i hi
    refine ⟨g, 0, rfl, (Array.getElem?_eq_some_iff.1 hg).1, ?_⟩
    have := h.cells (g := g) rfl i (.int .i64 xs[i]) (by rw [List.getElem?_map, List.getElem?_eq_getElem hi]; rfl)
    rw [Addr.add_lit] at this
    exact this

theorem Own.alloc {base : Nat} {w : World} {v : Value} {xs : List Int} (h : Own base w v xs) (o : Obj) : Own base (w.alloc o) v xs := World.ownsRow.alloc h o
theorem Own.below {base : Nat} {w w' : World} {v : Value} {xs : List Int} (h : Own base w v xs) (hb : Below w.heap.size w w') : Own base w' v xs :=
  World.ownsRow.kept h (row := Option.none) ⟨hb.os, hb.tape, hb.output, hb.size, fun k hk _ => hb.block k hk⟩ (by cases v.ownBlock <;> simp)

theorem own_snoc {base : Nat} {w : World} {v : Value} {xs ys : List Int} {x : Int} (h : w.ownsRow base 3 1 v (xs.length + 1) (xs.map (Value.int .i64) ++ [.int .i64 x])) (e : ys = xs ++ [x]) : Own base w v ys := by
  subst e; unfold Own; simpa using h

section
variable {base : Nat} {w w' : World} {B M : Nat} {rv : Value} {L : List Itm}

/-- The blocks of an arena. -/
def Mine (B M : Nat) (rv : Value) (k : Nat) : Prop := k = B ∨ k = M ∨ rv.ownBlock = some k

theorem ownsRow_same {e : TypeId} {size n : Nat} {xs : List Value} (h : w.ownsRow base e size rv n xs) (hk : ∀ k, rv.ownBlock = some k → w'.heap[k]? = w.heap[k]?) : w'.ownsRow base e size rv n xs := by
  refine ⟨h.1, ?_⟩
  rcases h.2 with hn | ⟨g, cap, cur, rfl, hb, hgg, rest⟩
  · exact .inl hn
  · exact .inr ⟨g, cap, cur, rfl, hb, by rw [hk g rfl]; exact hgg, rest⟩

theorem Pls.same {ps : List Int} (h : Pls w M ps) (hk : w'.heap[M]? = w.heap[M]?) : Pls w' M ps := by
  obtain ⟨D, ⟨es, clock, hb, F⟩, h2⟩ := h
  exact ⟨D, ⟨es, clock, by rw [hk]; exact hb, F⟩, h2⟩

theorem Arn.same (h : Arn base w B M rv L) (hk : ∀ k, Mine B M rv k → w'.heap[k]? = w.heap[k]?) : Arn base w' B M rv L :=
  ⟨h.lB, h.lM, by rw [hk B (.inl rfl)]; exact h.head, ownsRow_same h.row (fun k e => hk k (.inr (.inr e))), h.pls.same (hk M (.inr (.inl rfl)))⟩

theorem Pls.lt {ps : List Int} (h : Pls w M ps) : M < w.heap.size := by obtain ⟨D, h, _⟩ := h; exact h.lt
theorem Arn.lt (h : Arn base w B M rv L) : ∀ k, Mine B M rv k → base ≤ k ∧ k < w.heap.size := by
  rintro k (rfl | rfl | e)
  · exact ⟨h.lB, h.ltB⟩
  · exact ⟨h.lM, h.pls.lt⟩
  · exact h.row.lt k e

theorem Arn.below (h : Arn base w B M rv L) (hb : Below w.heap.size w w') : Arn base w' B M rv L := h.same (fun k hk => hb.block k (h.lt k hk).2)
theorem Arn.alloc (h : Arn base w B M rv L) (o : Obj) : Arn base (w.alloc o) B M rv L := h.below ((Below.refl _ _).alloc (Nat.le_refl _) o)

/-- The blocks differ. -/
theorem Arn.apart (h : Arn base w B M rv L) : B ≠ M ∧ rv.ownBlock ≠ some B ∧ rv.ownBlock ≠ some M := by
  obtain ⟨D, ⟨es, clock, hb, F⟩, h2⟩ := h.pls
  have hh := h.head
  refine ⟨fun e => ?_, fun e => ?_, fun e => ?_⟩
  · subst e; rw [hh] at hb; simp at hb
  · rcases h.row.2 with ⟨rfl, _⟩ | ⟨g, cap, cur, rfl, _, hg, _⟩
    · simp [Value.ownBlock] at e
    · simp [Value.ownBlock] at e; subst e; rw [hh] at hg; simp at hg
  · rcases h.row.2 with ⟨rfl, _⟩ | ⟨g, cap, cur, rfl, _, hg, _⟩
    · simp [Value.ownBlock] at e
    · simp [Value.ownBlock] at e; subst e; rw [hb] at hg; simp at hg

theorem Arn.cellAt (h : Arn base w B M rv L) {g : Nat} (hg : rv.ownBlock = some g) {i : Nat} {x : Int} (hx : (rowOf L)[i]? = some x) : w.cell? ⟨g, i, none⟩ = some (.int .i64 x) := by
  have := h.row.cells hg i (.int .i64 x) (by rw [List.getElem?_map, hx]; rfl)
  rw [Addr.add_lit] at this
  simpa using this
end

set_option maxHeartbeats 800000 in
theorem new_any (w : World) :
    Calls Try.prog 16 #[] w fun e w' => e = .returned (.pointer (some ⟨w.heap.size + 1, 0, none⟩)) ∧ Arn w.heap.size w' (w.heap.size + 1) w.heap.size (.slice none 0 0) [] ∧ Below w.heap.size w w' := by
  have hmm := @run_makeMap Try.prog
  go_enter Try.func16, Try.ntmps16
  go_wp2
  go_ret
  refine ⟨by simp, ⟨by simp, Nat.le_refl _, ?_, World.ownsRow_nil _ _ _ _, ?_⟩, ?_⟩
  · exact heap_alloc_new (w.alloc (.map #[] 0)) _ |>.symm ▸ by simp [headOf, waste]
  · exact ⟨.map [], (World.ownsMap_made w _ _ _).alloc _, fun k => by simp [Maps.has, plF], rfl⟩
  · exact ((Below.refl _ _).alloc (Nat.le_refl _) _).alloc (by simp) _

theorem made_block {w : World} {base g n : Nat} {e : TypeId} {xs : List Value} (h : w.ownsRow base e 1 (.slice (some ⟨g, 0, none⟩) n n) n xs) : w.heap[g]? = some (.cells xs.toArray e (0, 0)) ∧ base ≤ g := by
  rcases h.2 with ⟨e0, _⟩ | ⟨g', cap, cur, e0, hb, hg, hn, hm, hs, ht⟩
  · simp at e0
  · simp at e0
    obtain ⟨rfl, rfl⟩ := e0
    rw [List.take_of_length_le (by simp [hs])] at ht
    subst ht
    exact ⟨by simpa using hg, hb⟩

theorem Arn.src {base : Nat} {w : World} {B M : Nat} {rv : Value} {A R : List Itm} {it : Itm} (h : Arn base w B M rv (A ++ it :: R)) {a0 : Option Addr} (ha0 : 0 < it.1.length → ∃ g, rv.ownBlock = some g ∧ a0 = some ⟨g, words A + 2, none⟩) (hpos : 0 < (it.1.map (Value.int .i64)).length) :
    ∃ ad, a0 = some ad ∧ ∀ j v, (it.1.map (Value.int .i64))[j]? = some v → w.cell? (ad.add j) = some v := by
  obtain ⟨g, e1, e2⟩ := ha0 (by simpa using hpos)
  refine ⟨_, e2, fun j v hv => ?_⟩
  rw [List.getElem?_map] at hv
  obtain ⟨x, hx, rfl⟩ := Option.map_eq_some_iff.1 hv
  obtain ⟨hj, rfl⟩ := List.getElem?_eq_some_iff.1 hx
  rw [Addr.add_lit]
  exact h.cellAt e1 (rowOf_lit A R it j hj)

theorem size3 : (Try.prog.info? 3).map (·.size) = some 1 := by kernel_rfl
theorem below_of_grown {w w' : World} (h : w.grownBy w' none) : Below w.heap.size w w' := ⟨h.os, h.tape, h.output, h.size, fun k hk => h.block k hk (by simp)⟩
theorem one_ints (xs : List Int) : ∀ v ∈ xs.map (Value.int .i64), v.oneCell' = true := by
  intro v hv; obtain ⟨x, _, rfl⟩ := List.mem_map.1 hv; rfl

set_option maxHeartbeats 800000 in
theorem get_no (base : Nat) (w : World) (B M : Nat) (rv : Value) (L : List Itm) (p : Int) (hA : Arn base w B M rv L) (hp : (Lit.int .i64 p).wf = true) (hno : p ∉ plF 0 L) :
    Calls Try.prog 10 #[.pointer (some ⟨B, 0, none⟩), .int .i64 p] w fun e w' => e = .returned (.tuple #[.slice none 0 0, .bool false]) ∧ Below w.heap.size w w' := by
  have G := hide (has_any base w B M rv L p hA hp)
  rw [decide_eq_false hno] at G
  clear hA
  go_enter Try.func10, Try.ntmps10
  go_wp2_with (go_at_call 29; refine (unhide G).mono ?_; rintro e w0 ⟨rfl, hw0⟩; subst w0)
  go_ret2
  exact ⟨rfl, (Below.refl _ _).alloc (Nat.le_refl _) _⟩

set_option maxHeartbeats 800000 in
theorem get_yes (base : Nat) (w : World) (B M : Nat) (rv : Value) (A R : List Itm) (it : Itm) (hA : Arn base w B M rv (A ++ it :: R)) (hl : words (A ++ it :: R) ≤ 20000) (hit : it.2 = false) :
    Calls Try.prog 10 #[.pointer (some ⟨B, 0, none⟩), .int .i64 (words A)] w fun e w' => ∃ v, e = .returned (.tuple #[v, .bool true]) ∧ Own w.heap.size w' v it.1 ∧ Below w.heap.size w w' := by
  obtain ⟨i0, hi, hz0, hz1, hz2⟩ := info_parts Try.info3
  have hw : words (A ++ it :: R) = words A + (2 + it.1.length) + words R := by rw [words_append]; simp [words]; omega
  have G := hide (has_any base w B M rv _ (words A) hA (i64_wf (by omega) (by omega)))
  have hm := plF_mem A R it 0 hit
  rw [Nat.zero_add] at hm
  rw [decide_eq_true hm] at G
  clear hm
  have G2 := hide (literals_any base _ B M rv A R it (hA.alloc (.cells #[] 70)) hl)
  have hsz : Hid ((w.alloc (.cells #[] 70)).heap.size = w.heap.size + 1) := by show _ = _; simp
  go_enter Try.func10, Try.ntmps10
  go_wp2_with (first
    | (go_at_call 29; refine (unhide G).mono ?_; rintro e w0 ⟨rfl, hw0⟩; subst w0)
    | (go_at_call 30; refine (unhide G2).mono ?_; rintro e w0 ⟨⟨a0, rfl, ha0⟩, hw0⟩; subst w0)
    | (at_make; refine wpList_make_full _ rfl _ _ 32 rfl w.heap.size 3 i0 (.int .i64 0) 1 Try.underlying32 hi hz0 hz1 .i64 .i64 _ _ it.1.length rfl rfl rfl rfl (by rw [hz2]; omega) (by unfold maxLen; omega) (by simp) ?_; intro w1 hown1 hgrow1; rw [hsz.out] at hown1)
    | (refine wpList_copy_splice rfl _ _ 32 32 rfl 3 Try.underlying32 size3 _ _ _ _ _ _ rfl rfl (w.heap.size + 1) 0 _ 3 (made_block hown1).1 (it.1.map (Value.int .i64)) (by simp) (fun h => ⟨rfl, ((hA.alloc _).below (below_of_grown hgrow1)).src ha0 h⟩) (by simp [size_madeCells]) (one_ints _) w.heap.size w (((Below.refl _ _).alloc (Nat.le_refl _) _).trans ((below_of_grown hgrow1).mono (by simp))) (by simp) ?_; intro w2 HG2 hB2))
  go_ret2
  refine ⟨_, rfl, ?_, hB2⟩
  have h2 := HG2.out
  refine ⟨by simp, .inr ⟨_, it.1.length, _, rfl, by simp, h2, Nat.le_refl _, by unfold maxLen; omega, by simp [splice, size_madeCells], ?_⟩⟩
  simp [splice, size_madeCells]

end Go.Proofs.Ytbibbdkijgaoeaa
