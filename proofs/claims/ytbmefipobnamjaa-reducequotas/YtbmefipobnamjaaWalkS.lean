/- Contract: sorting places by which is better. -/
import Derived.Test.YtbmefipobnamjaaWalkD
import Derived.Test.YtbmefipobnamjaaShelf1
import Derived.Lib.OwnBridge
set_option linter.unusedVariables false
set_option linter.unusedSimpArgs false
namespace Go.Proofs.Ytbmefipobnamjaa
open Go.RowKit Go.Sort Go.Shelf

set_option maxHeartbeats 1000000 in
set_option maxRecDepth 100000 in
theorem insertion_none (p : Option Addr) (cap : Nat) (fv : Value) (w : World) :
    Calls Try.prog 24 #[.slice p 0 cap, .int .i64 0, .int .i64 0, fv] w fun e w' => e = .returned (.tuple #[]) ∧ w' = w := by
  go_enter Try.func24, Try.ntmps24
  go_wp2
  refine wp_loop_rounds 1 ?_
  rw [rounds_succ]
  go_wp2
  go_end0
  exact ⟨rfl, rfl⟩

set_option maxHeartbeats 1000000 in
set_option maxRecDepth 100000 in
theorem pdq_none (p : Option Addr) (cap : Nat) (lim : Int) (fv : Value) (w : World) :
    Calls Try.prog 21 #[.slice p 0 cap, .int .i64 0, .int .i64 0, .int .i64 lim, fv] w fun e w' => e = .returned (.tuple #[]) ∧ w' = w := by
  go_enter Try.func21, Try.ntmps21
  go_wp2
  refine wp_loop_rounds 1 ?_
  rw [rounds_succ]
  go_wp2_with (go_at_call 24; refine (insertion_none _ _ _ _).mono ?_; rintro e w' ⟨rfl, rfl⟩)
  (try simp only [Exit.inBlock, Exit.then])
  refine bodyPost_ret (results_none rfl _ _ _) rfl ?_
  exact ⟨rfl, rfl⟩

set_option maxHeartbeats 1000000 in
set_option maxRecDepth 100000 in
theorem len64_zero (w : World) : Calls Try.prog 33 #[.int .u64 0] w fun e w' => (∃ n : Int, e = .returned (.int .i64 n)) ∧ w' = w := by
  go_enter Try.func33, Try.ntmps33
  go_wp2
  go_ret
  exact ⟨⟨_, rfl⟩, rfl⟩

set_option maxHeartbeats 1000000 in
set_option maxRecDepth 100000 in
theorem len_zero (w : World) : Calls Try.prog 22 #[.int .u64 0] w fun e w' => (∃ n : Int, e = .returned (.int .i64 n)) ∧ w' = w := by
  go_enter Try.func22, Try.ntmps22
  go_wp2_with (go_at_call 33; refine (len64_zero _).mono ?_; rintro e w' ⟨⟨n, rfl⟩, rfl⟩)
  go_ret
  exact ⟨⟨_, rfl⟩, rfl⟩

set_option maxHeartbeats 1000000 in
set_option maxRecDepth 100000 in
/-- Sorting no number. -/
theorem sort_none (a : Option Addr) (cap : Nat) (fv : Value) (w : World) :
    Calls Try.prog 17 #[.slice a 0 cap, fv] w fun e w' => e = .returned (.tuple #[]) ∧ w' = w := by
  go_enter Try.func17, Try.ntmps17
  go_wp2_with (first | (go_at_call 22; refine (len_zero _).mono ?_; rintro e w' ⟨⟨n, rfl⟩, rfl⟩) | (go_at_call 21; refine (pdq_none _ _ _ _ _).mono ?_; rintro e w' ⟨rfl, rfl⟩))
  go_end0
  exact ⟨rfl, rfl⟩

theorem grown_grow (w : World) (os : Array Obj) : w.grownBy (grow w os) none :=
  ⟨rfl, rfl, rfl, by simp [grow], fun k hk _ => by simp [grow, Array.getElem?_append, hk]⟩

theorem below_sort {α : Type} [Inhabited α] {enc : α → Value} {a w : World} {blk m : Nat} {dk : Array α} {os : Array Obj} (h : RowKit.Below a.heap.size a w) (hb : a.heap.size ≤ blk) : RowKit.Below a.heap.size a (sortWorld enc w blk 0 m dk os) := by
  have h2 : RowKit.Below a.heap.size a (putRow enc (Sort.ahead w m) blk 0 dk) := Lib.below_putRow h hb
  exact h2.grown (grown_grow _ os) h2.size (by intro k hk; cases hk)

theorem grow_drew (W : World) (q : Nat) (o : Obj) : (W.drewN q).alloc o = grow (W.drewN q) #[o] := alloc_eq_grow _ _

/-- Places in a list. -/
abbrev FL (L : List Ln) : Type := { z : Nat // z < L.length }
def encF (L : List Ln) (z : FL L) : Value := .int .i64 (z.1 : Int)
def cfF (L : List Ln) (u v : FL L) : Int := cmpN L u.1 v.1

theorem ltF_true {L : List Ln} {u v : FL L} : ltOf (cfF L) u v = true ↔ betB L u.1 v.1 = true := by unfold ltOf cfF; rw [decide_eq_true_eq, cmpN_neg]
theorem ltF_eq {L : List Ln} {u v : FL L} : ltOf (cfF L) u v = betB L u.1 v.1 := by rw [Bool.eq_iff_iff, ltF_true]

theorem swo_F (L : List Ln) : SWO (ltOf (cfF L)) where
  irrefl x := by rw [ltF_eq]; unfold betB; rw [decide_eq_false_iff_not]; omega
  trans x y z h1 h2 := by rw [ltF_eq] at *; unfold betB at *; rw [decide_eq_true_eq] at *; omega
  ntrans x y z h1 h2 := by rw [ltF_eq] at *; unfold betB at *; rw [decide_eq_false_iff_not] at *; omega

theorem pmap_val (L : List Ln) : ∀ (xs : List Nat) (hf : ∀ l ∈ xs, l < L.length), (xs.pmap (fun l h => (⟨l, h⟩ : FL L)) hf).map (fun z => z.1) = xs
  | [], _ => rfl
  | x :: xs, hf => by simp only [List.pmap, List.map_cons]; rw [pmap_val L xs]

theorem sort_any (w W1 : World) (b2 g cap lc : Nat) (a : Option Addr) (L : List Ln) (xs : List Nat) (hL : Lns W1 a L) (c2 : W1.cell? ⟨b2, 0, none⟩ = some (.slice a L.length lc)) (hbel : RowKit.Below W1.heap.size W1 w)
    (hown : Own W1.heap.size w (.slice (some ⟨g, 0, none⟩) xs.length cap) xs) (hf : ∀ l ∈ xs, l < L.length) (hl : xs.length ≤ 100) (hl2 : L.length ≤ 100) :
    Calls Try.prog 17 #[.slice (some ⟨g, 0, none⟩) xs.length cap, .func (.func 18) #[] #[.pointer (some ⟨b2, 0, none⟩)]] w fun e w' => e = .returned (.tuple #[]) ∧ ∃ ys, SrtP W1.heap.size W1 w' L g cap xs ys := by
  cases hxs : xs with
  | nil =>
    rw [hxs] at hown
    refine (sort_none (some ⟨g, 0, none⟩) cap _ w).mono ?_
    rintro e w' ⟨rfl, rfl⟩
    exact ⟨rfl, [], List.Perm.refl _, fun i j hij hj => by simp at hj, hown, hbel⟩
  | cons x0 xt =>
    rw [← hxs]
    have hx0 : x0 < L.length := hf x0 (by rw [hxs]; simp)
    obtain ⟨b, off, rfl, _⟩ := hL x0 hx0
    have inh : Inhabited (FL L) := ⟨⟨x0, hx0⟩⟩
    let zs : List (FL L) := xs.pmap (fun l h => (⟨l, h⟩ : FL L)) hf
    have hzl : zs.length = xs.length := by simp [zs]
    have hzm : zs.map (fun z => z.1) = xs := pmap_val L xs hf
    have hze : zs.map (encF L) = xs.map (fun n : Nat => Value.int .i64 (n : Int)) := by
      conv => rhs; rw [← hzm]
      rw [List.map_map]; rfl
    have hown' : w.ownsRow W1.heap.size 3 1 (.slice (some ⟨g, 0, none⟩) xs.length cap) xs.length (zs.map (encF L)) := by rw [hze]; exact hown
    obtain ⟨g', cap', e', hbg, hgl, hcap, hcm, _, hH⟩ := Lib.holds_of_ownsRow hown' (by simp)
    cases e'
    have eg : ∀ args w, (callFunc 18 args).run Try.prog w = .ok (.enter 18 args) w := enters_of Try.func18 (by kernel_rfl) rfl
    have hcmp : CmpLays1 Try.prog 18 #[.pointer (some ⟨b2, 0, none⟩)] (encF L) (cfF L) g 0 zs.toArray.size w := by
      intro m os dk _ u v
      have hb := below_sort (enc := encF L) (m := m) (dk := dk) (os := os) hbel hbg
      refine (cmp_any _ b2 b off lc L u.1 v.1 (hL.below hb) ((hb.cell (p := ⟨b2, 0, none⟩) (World.block_lt_of_cell? W1 _ c2)).trans c2) hl2 u.2 v.2).mono ?_
      rintro e w0 ⟨he, q, o, rfl⟩
      exact ⟨he, _, _, grow_drew _ _ _⟩
    have hs : zs.toArray.size = xs.length := by simpa using hzl
    have hcon := Any.slices_SortFunc Try.sortLits (encF L) (fun _ => rfl) (cfF L) (swo_F L) 18 #[.pointer (some ⟨b2, 0, none⟩)] g 0 cap zs.toArray w eg hcmp hH hgl (by rw [hs]; omega)
    rw [hs] at hcon
    refine Calls.mono (f := 17) hcon ?_
    rintro e w' ⟨rfl, d', n, os, hp, hso, rfl⟩
    have hsz : d'.size = xs.length := by rw [hp.1, hs]
    have hperm : d'.toList.Perm zs := by
      have := hp.2.2
      simp at this
      rw [List.take_of_length_le (by simp; omega)] at this
      first | exact this | (rw [List.take_of_length_le (by omega)] at this; exact this) | (rw [List.take_of_length_le (by simp; omega)] at this; exact this)
    have hlen : (d'.toList.map (fun z => z.1)).length = xs.length := by simpa using hsz
    refine ⟨rfl, d'.toList.map (fun z => z.1), ?_, ?_, ?_, ?_⟩
    · have := hperm.map (fun z => z.1)
      rw [hzm] at this
      exact this
    · intro i j hij hj
      have hj' : j < d'.size := by rw [hlen] at hj; omega
      have := hso i j (Nat.zero_le _) hij (by omega)
      rw [ltF_eq] at this
      simpa [getElem!_pos, hj', (by omega : i < d'.size)] using this
    · have hc := Lib.ownsRow_putRow (q := n) (k := xs.length) (ys := d'.toList) hown' (by simpa using hsz) (Nat.le_refl _)
      rw [List.take_of_length_le (by simp; omega), Array.toArray_toList] at hc
      unfold Own
      rw [hlen]
      have e1 : (d'.toList.map (fun z => z.1)).map (fun n : Nat => Value.int .i64 (n : Int)) = d'.toList.map (encF L) := by rw [List.map_map]; rfl
      rw [e1]
      exact World.ownsRow.kept hc (grown_grow _ os) (by right; simp [Value.ownBlock])
    · exact below_sort hbel hbg

end Go.Proofs.Ytbmefipobnamjaa
