/- Acts in memory; light, awake. -/
import Derived.Test.YtbibbdkijgaoeaaWalkN
import Derived.Test.YtbibbdkijgaoeaaWalkP
import Derived.Test.YtbibbdkijgaoeaaWalkQ
set_option linter.unusedVariables false
set_option linter.unusedSimpArgs false
namespace Go.Proofs.Ytbibbdkijgaoeaa
open Go.RowKit Go.Maps

/-- Something that is done with an arena. -/
structure ActD where
  d : Int
  c : List Int
  p : Int
  i : Int
  j : Int

structure ActAt (w : World) (b o : Nat) (x : ActD) (ai : Option Addr) (ci : Nat) : Prop where
  c0 : w.cell? ⟨b, o, none⟩ = some (.int .i64 x.d)
  c1 : w.cell? ⟨b, o + 1, none⟩ = some (.slice ai x.c.length ci)
  c2 : w.cell? ⟨b, o + 2, none⟩ = some (.int .i64 x.p)
  c3 : w.cell? ⟨b, o + 3, none⟩ = some (.int .i64 x.i)
  c4 : w.cell? ⟨b, o + 4, none⟩ = some (.int .i64 x.j)
  row : Row w ai x.c
  len : x.c.length ≤ maxLen
  nil : ai = none → ci = 0
  wp : (Lit.int .i64 x.p).wf = true

/-- Acts behind a slice. -/
def Acts (w : World) (a : Option Addr) (l : List ActD) : Prop :=
  ∀ k (h : k < l.length), ∃ b off ai ci, a = some ⟨b, off, none⟩ ∧ b < w.heap.size ∧ ActAt w b (off + k * 5) l[k] ai ci

def lightB (l : List ActD) : Bool := (l.take 40).all (fun x => decide (x.c.length ≤ 300))

theorem all_true_at {α : Type} {p : α → Bool} {l : List α} {k : Nat} (h : k < l.length) (ha : l.all p = true) : p l[k] = true := List.all_eq_true.1 ha _ (List.getElem_mem h)
theorem allTakeSnoc {α : Type} {p : α → Bool} {l : List α} {k : Nat} (h : k < l.length) (ha : (l.take k).all p = true) (hp : p l[k] = true) : (l.take (k + 1)).all p = true := by
  rw [List.take_succ_eq_append_getElem h, List.all_append, ha]; simp [hp]
theorem allFalseAt {α : Type} {p : α → Bool} {l : List α} {k : Nat} (h : k < l.length) (hp : p l[k] = false) : l.all p = false := by
  cases ha : l.all p
  · rfl
  · rw [all_true_at h ha] at hp; cases hp
theorem lightB_at {l : List ActD} (h : lightB l = true) {k : Nat} (hk : k < l.length) (h40 : k < 40) : l[k].c.length ≤ 300 := by
  have hk' : k < (l.take 40).length := by simp; omega
  have := all_true_at hk' h
  simpa using this

set_option maxHeartbeats 800000 in
theorem light_any (w : World) (a : Option Addr) (cap : Nat) (l : List ActD) (hA : Acts w a l) (hl : l.length ≤ maxLen) :
    Calls Try.prog 6 #[.slice a l.length cap] w fun e w' => e = .returned (.bool (lightB l)) ∧ w' = w := by
  unfold maxLen at hl
  go_enter Try.func6, Try.ntmps6
  go_wp2
  go_loop [3] (fun i => ∃ k : Nat, k ≤ l.length ∧ k ≤ 40 ∧ i = .int .i64 k ∧ (l.take k).all (fun x => decide (x.c.length ≤ 300)) = true) (fun i => l.length - (intOf i).toNat)
  case atStart => exact ⟨0, Nat.zero_le _, Nat.zero_le _, rfl, rfl⟩
  case round =>
    obtain ⟨k, hk, hk40, rfl, hno⟩ := hrel
    have HN := hide hno
    clear hno
    by_cases hlt : k < l.length
    · by_cases h40 : k < 40
      · obtain ⟨b, off, ai, ci, rfl, hb, hat⟩ := hA k hlt
        have c1 := hat.c1
        have hlen := hat.len
        unfold maxLen at hlen
        clear hat hA
        by_cases he : l[k].c.length ≤ 300
        · have he' : ¬ (300 : Int) < l[k].c.length := by omega
          go_wp2
          go_round
          case rel => exact ⟨k + 1, by omega, by omega, by go_num, allTakeSnoc hlt HN.out (by simpa using he)⟩
          case measure => simp [intOf]; omega
        · have he' : (300 : Int) < l[k].c.length := by omega
          go_wp2
          go_ret
          refine ⟨ret_bool ?_, rfl⟩
          symm
          unfold lightB
          exact allFalseAt (k := k) (by simp; omega) (by simpa using he)
      · clear hA
        go_wp2
        go_ret
        refine ⟨ret_bool ?_, rfl⟩
        have hk' : k = 40 := by omega
        subst hk'
        exact HN.out.symm
    · clear hA
      go_wp2
      go_ret
      refine ⟨ret_bool ?_, rfl⟩
      have h := HN.out
      rw [List.take_of_length_le (by omega)] at h
      unfold lightB
      rw [List.take_of_length_le (by omega)]
      exact h.symm

theorem row_new (w : World) (xs : List Int) : Row (w.alloc (.cells (xs.map (Value.int .i64)).toArray 3)) (some ⟨w.heap.size, 0, none⟩) xs := by
  intro i hi
  refine ⟨w.heap.size, 0, rfl, by simp, ?_⟩
  have h := heap_alloc_new w (.cells (xs.map (Value.int .i64)).toArray 3)
  simp only [World.cell?, h]
  simp [hi]

set_option maxHeartbeats 1600000 in
theorem awake_any (w : World) : Calls Try.prog 7 #[] w fun e w' => e = .returned (.bool true) ∧ Below w.heap.size w w' := by
  have G := hide (new_any w)
  have q0 : words ([] : List Itm) = 0 := rfl
  have q1 : words [([1, 2], false)] = 4 := rfl
  have q2 : words [([1, 2], false), ([3], false)] = 7 := rfl
  go_enter Try.func7, Try.ntmps7
  go_wp2_with (first
    | (go_at_call 16; refine (unhide G).mono ?_; rintro e w1 ⟨rfl, hA1, hb1⟩)
    | (go_at_call_of 17 (Value.slice (some ⟨w1.heap.size, 0, none⟩) 2 2); refine (add_yes w.heap.size _ _ _ _ [] (some ⟨w1.heap.size, 0, none⟩) 2 [1, 2] (hA1.alloc _) (by simp [words]) (row_new w1 [1, 2]) (by simp) (by simp) (by decide) (fun b off e _ hm => by simp at e; have := (hA1.lt b hm).2; omega) (by have := hb1.size; simp; omega)).mono ?_; rintro e w2 ⟨rfl, rv2, hA2, hk2, hf2⟩)
    | (go_at_call 17; refine (add_yes w.heap.size _ _ _ rv2 [([1, 2], false)] (some ⟨w2.heap.size, 0, none⟩) 1 [3] (hA2.alloc _) (by simp [words]) (row_new w2 [3]) (by simp) (by simp) (by decide) (fun b off e _ hm => by simp at e; have := (hA2.lt b hm).2; omega) (by have := hb1.size; have := hk2.size; simp at this ⊢; omega)).mono ?_; rintro e w3 ⟨rfl, rv3, hA3, hk3, hf3⟩)
    | (go_at_call 18; refine (words_any w.heap.size _ _ _ rv3 _ hA3).mono ?_; rintro e w0 ⟨rfl, hw0⟩; subst w0))
  go_ret
  refine ⟨rfl, ?_⟩
  have k12 : Below w.heap.size w w2 := by
    have hs := hb1.size
    refine ⟨hk2.os.trans hb1.os, hk2.tape.trans hb1.tape, hk2.output.trans hb1.output, Nat.le_trans (by simp; omega) hk2.size, fun k hk => ?_⟩
    rw [hk2.block k (by simp; omega) (fun hm => by have := (hA1.lt k hm).1; omega), heap_alloc_old _ _ (by omega)]
    exact hb1.block k hk
  have hs := k12.size
  refine ⟨hk3.os.trans k12.os, hk3.tape.trans k12.tape, hk3.output.trans k12.output, Nat.le_trans (by simp; omega) hk3.size, fun k hk => ?_⟩
  rw [hk3.block k (by simp; omega) (fun hm => by have := (hA2.lt k hm).1; omega), heap_alloc_old _ _ (by omega)]
  exact k12.block k hk

end Go.Proofs.Ytbibbdkijgaoeaa
