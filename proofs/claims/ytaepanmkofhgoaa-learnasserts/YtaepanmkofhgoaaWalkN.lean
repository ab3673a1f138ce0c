/- Contracts: the first of two numbers that is not 0; how two literals of what is learned stand to each other. -/
import Derived.Test.YtaepanmkofhgoaaWalkM
import Derived.Test.YtaepanmkofhgoaaShelf1
import Derived.Lib.OwnBridge
set_option linter.unusedVariables false
set_option linter.unusedSimpArgs false
namespace Go.Proofs.Ytaepanmkofhgoaa
open Go.RowKit Go.Maps Go.Sort Go.Shelf

/-- The first that is not 0. -/
def orI (x y : Int) : Int := if x = 0 then y else x

set_option maxHeartbeats 1000000 in
theorem or_any (a : Option Addr) (cap : Nat) (x y : Int) (w : World) (hr : Row w a [x, y]) :
    Calls Try.prog 52 #[.slice a 2 cap] w fun e w' => e = .returned (.int .i64 (orI x y)) ∧ w' = w := by
  obtain ⟨b, off, rfl, hb, h0⟩ := hr 0 (by simp)
  obtain ⟨b', off', e, _, h1⟩ := hr 1 (by simp)
  cases e
  simp at h0 h1
  clear hr
  by_cases e0 : x = 0
  · have g0 : (x != 0) = false := by simp [e0]
    have HO : Hid (orI x y = y) := if_pos e0
    clear e0
    generalize orI x y = R at *
    by_cases e1 : y = 0
    · have g1 : (y != 0) = false := by simp [e1]
      have HO2 : Hid (y = 0) := e1
      clear e1
      go_enter Try.func52, Try.ntmps52
      go_wp2
      refine wp_loop_rounds 3 ?_
      rw [rounds_succ]
      go_wp2
      rw [rounds_succ]
      go_wp2
      rw [rounds_succ]
      go_wp2
      go_ret
      exact ⟨ret_int (by rw [HO.out, HO2.out]), rfl⟩
    · have g1 : (y != 0) = true := by simp [e1]
      clear e1
      go_enter Try.func52, Try.ntmps52
      go_wp2
      refine wp_loop_rounds 2 ?_
      rw [rounds_succ]
      go_wp2
      rw [rounds_succ]
      go_wp2
      go_ret
      exact ⟨ret_int HO.out.symm, rfl⟩
  · have g0 : (x != 0) = true := by simp [e0]
    have HO : Hid (orI x y = x) := if_neg e0
    clear e0
    generalize orI x y = R at *
    go_enter Try.func52, Try.ntmps52
    go_wp2
    refine wp_loop_rounds 1 ?_
    rw [rounds_succ]
    go_wp2
    go_ret
    exact ⟨ret_int HO.out.symm, rfl⟩

/-- How two literals of what is learned stand to each other. -/
def cmpT (ts : List As) (u v : Int) : Int := orI (cmpI (levI ts v) (levI ts u)) (cmpI (varI u) (varI v))

theorem cmpI_neg {x y : Int} : cmpI x y < 0 ↔ x < y := by
  unfold cmpI
  split
  · omega
  · split <;> omega
theorem cmpI_zero {x y : Int} : cmpI x y = 0 ↔ x = y := by
  unfold cmpI
  split
  · omega
  · split <;> omega
theorem cmpT_neg {ts : List As} {u v : Int} : cmpT ts u v < 0 ↔ RB ts u v := by
  unfold cmpT orI RB
  split
  · rename_i h; rw [cmpI_zero] at h; rw [cmpI_neg]; omega
  · rename_i h; rw [cmpI_zero] at h; rw [cmpI_neg]; omega

theorem grow_drew (W : World) (q : Nat) (o : Obj) : (W.drewN q).alloc o = grow (W.drewN q) #[o] := alloc_eq_grow _ _

set_option maxHeartbeats 4000000 in
theorem cmp51_any (W : World) (b2 pb : Nat) (ts : List As) (x : PP) (u v : Int) (h : Pth W pb ts ts.length x) (c2 : W.cell? ⟨b2, 0, none⟩ = some (.pointer (some ⟨pb, 0, none⟩))) (hu : falB ts u = true) (hv : falB ts v = true) :
    Calls Try.prog 51 #[.int .i64 u, .int .i64 v, .pointer (some ⟨b2, 0, none⟩)] W fun e w' => e = .returned (.int .i64 (cmpT ts u v)) ∧ ∃ q os, w' = grow (W.drewN q) os := by
  have T := Tr.of h.ok
  have hl1 := litB_true.1 (fal_lit T.vl hu)
  have hl2 := litB_true.1 (fal_lit T.vl hv)
  have CV1 := fun w => variable_all u w
  rw [varW_lit hl1.2.1 hl1.2.2] at CV1
  have CV2 := fun w => variable_all v w
  rw [varW_lit hl2.2.1 hl2.2.2] at CV2
  have CL1 := hide (fun n => level_any (W.drewN n) pb ts x u (h.drewN n) hu)
  have CL2 := hide (fun n => level_any (W.drewN n) pb ts x v (h.drewN n) hv)
  have CO := hide (fun w a b => or_any (some ⟨w.heap.size, 0, none⟩) 2 a b (w.alloc (.cells #[.int .i64 a, .int .i64 b] 3)) (row_two w a b))
  have hbl := World.block_lt_of_cell? W _ c2
  dsimp only at hbl
  unfold cmpT
  replace CV1 := hide CV1
  replace CV2 := hide CV2
  clear h T hl1 hl2 hu hv
  generalize levI ts u = lu at *
  generalize levI ts v = lw at *
  generalize varI u = vu at *
  generalize varI v = vv at *
  go_enter Try.func51, Try.ntmps51
  go_wp2
  go_region_held3 (fun z => z.cell? ⟨b2, 0, none⟩ = some (.pointer (some ⟨pb, 0, none⟩))) (go_keep) (first
    | (go_at_call_of 42 (Value.int IntKind.i64 u); refine (unhide CL1 _).mono ?_; rintro e w0 ⟨rfl, n1, hw0⟩; subst w0)
    | (go_at_call_of 42 (Value.int IntKind.i64 v); refine (unhide CL2 _).mono ?_; rintro e w0 ⟨rfl, n2, hw0⟩; subst w0)
    | (go_at_call_of 48 (Value.int IntKind.i64 u); refine (unhide CV1 _).mono ?_; rintro e w0 ⟨rfl, hw0⟩; subst w0)
    | (go_at_call_of 48 (Value.int IntKind.i64 v); refine (unhide CV2 _).mono ?_; rintro e w0 ⟨rfl, hw0⟩; subst w0)
    | (go_at_call 53; refine (compare_any _ _ _).mono ?_; rintro e w0 ⟨rfl, hw0⟩; subst w0)
    | (go_at_call 52; refine (unhide CO _ _ _).mono ?_; rintro e w0 ⟨rfl, hw0⟩; subst w0))
  go_wp2
  go_ret
  exact ⟨rfl, _, _, grow_drew _ _ _⟩

set_option maxHeartbeats 1000000 in
set_option maxRecDepth 100000 in
theorem insertion_none (p : Option Addr) (cap : Nat) (fv : Value) (w : World) :
    Calls Try.prog 70 #[.slice p 0 cap, .int .i64 0, .int .i64 0, fv] w fun e w' => e = .returned (.tuple #[]) ∧ w' = w := by
  go_enter Try.func70, Try.ntmps70
  go_wp2
  refine wp_loop_rounds 1 ?_
  rw [rounds_succ]
  go_wp2
  go_end0
  exact ⟨rfl, rfl⟩

set_option maxHeartbeats 1000000 in
set_option maxRecDepth 100000 in
theorem pdq_none (p : Option Addr) (cap : Nat) (lim : Int) (fv : Value) (w : World) :
    Calls Try.prog 63 #[.slice p 0 cap, .int .i64 0, .int .i64 0, .int .i64 lim, fv] w fun e w' => e = .returned (.tuple #[]) ∧ w' = w := by
  go_enter Try.func63, Try.ntmps63
  go_wp2
  refine wp_loop_rounds 1 ?_
  rw [rounds_succ]
  go_wp2_with (go_at_call 70; refine (insertion_none _ _ _ _).mono ?_; rintro e w' ⟨rfl, rfl⟩)
  (try simp only [Exit.inBlock, Exit.then])
  refine bodyPost_ret (results_none rfl _ _ _) rfl ?_
  exact ⟨rfl, rfl⟩

set_option maxHeartbeats 1000000 in
set_option maxRecDepth 100000 in
theorem len64_zero (w : World) : Calls Try.prog 67 #[.int .u64 0] w fun e w' => (∃ n : Int, e = .returned (.int .i64 n)) ∧ w' = w := by
  go_enter Try.func67, Try.ntmps67
  go_wp2
  go_ret
  exact ⟨⟨_, rfl⟩, rfl⟩

set_option maxHeartbeats 1000000 in
set_option maxRecDepth 100000 in
theorem len_zero (w : World) : Calls Try.prog 60 #[.int .u64 0] w fun e w' => (∃ n : Int, e = .returned (.int .i64 n)) ∧ w' = w := by
  go_enter Try.func60, Try.ntmps60
  go_wp2_with (go_at_call 67; refine (len64_zero _).mono ?_; rintro e w' ⟨⟨n, rfl⟩, rfl⟩)
  go_ret
  exact ⟨⟨_, rfl⟩, rfl⟩

set_option maxHeartbeats 1000000 in
set_option maxRecDepth 100000 in
/-- Sorting no number. -/
theorem sort_none (a : Option Addr) (cap : Nat) (fv : Value) (w : World) :
    Calls Try.prog 50 #[.slice a 0 cap, fv] w fun e w' => e = .returned (.tuple #[]) ∧ w' = w := by
  go_enter Try.func50, Try.ntmps50
  go_wp2_with (first | (go_at_call 60; refine (len_zero _).mono ?_; rintro e w' ⟨⟨n, rfl⟩, rfl⟩) | (go_at_call 63; refine (pdq_none _ _ _ _ _).mono ?_; rintro e w' ⟨rfl, rfl⟩))
  go_end0
  exact ⟨rfl, rfl⟩

theorem grown_grow (w : World) (os : Array Obj) : w.grownBy (grow w os) none :=
  ⟨rfl, rfl, rfl, by simp [grow], fun k hk _ => by simp [grow, Array.getElem?_append, hk]⟩

theorem below_sort {α : Type} [Inhabited α] {enc : α → Value} {a w : World} {blk m : Nat} {dk : Array α} {os : Array Obj} (h : RowKit.Below a.heap.size a w) (hb : a.heap.size ≤ blk) : RowKit.Below a.heap.size a (sortWorld enc w blk 0 m dk os) := by
  have h2 : RowKit.Below a.heap.size a (putRow enc (Sort.ahead w m) blk 0 dk) := Lib.below_putRow h hb
  exact h2.grown (grown_grow _ os) h2.size (by intro k hk; cases hk)

/-- Literals that are false by a trail. -/
abbrev FL (ts : List As) : Type := { z : Int // falB ts z = true }
def encF (ts : List As) (z : FL ts) : Value := .int .i64 z.1
def cfF (ts : List As) (u v : FL ts) : Int := cmpT ts u.1 v.1

theorem ltF_true {ts : List As} {u v : FL ts} : ltOf (cfF ts) u v = true ↔ RB ts u.1 v.1 := by unfold ltOf cfF; rw [decide_eq_true_eq, cmpT_neg]
theorem ltF_false {ts : List As} {u v : FL ts} : ltOf (cfF ts) u v = false ↔ ¬ RB ts u.1 v.1 := by rw [← ltF_true]; simp

theorem swo_F (ts : List As) : SWO (ltOf (cfF ts)) where
  irrefl x := by rw [ltF_false]; exact RB.irrefl
  trans x y z h1 h2 := by rw [ltF_true] at *; exact h1.trans h2
  ntrans x y z h1 h2 := by rw [ltF_false] at *; unfold RB at *; omega

theorem pmap_val (ts : List As) : ∀ (xs : List Int) (hf : ∀ l ∈ xs, falB ts l = true), (xs.pmap (fun l h => (⟨l, h⟩ : FL ts)) hf).map (fun z => z.1) = xs
  | [], _ => rfl
  | x :: xs, hf => by simp only [List.pmap, List.map_cons]; rw [pmap_val ts xs]

/-- What sorting leaves. -/
structure SrtP (N : Nat) (W1 w' : World) (ts : List As) (g cap : Nat) (xs : List Int) (ys : List Int) : Prop where
  perm : ys.Perm xs
  srt : ∀ i j (hij : i < j) (hj : j < ys.length), ¬ RB ts ys[j] (ys[i]'(by omega))
  own : Own N w' (.slice (some ⟨g, 0, none⟩) ys.length cap) ys
  bel : RowKit.Below N W1 w'

theorem sort50_any (w W1 : World) (b2 pb g cap : Nat) (ts : List As) (x : PP) (xs : List Int) (hP : Pth W1 pb ts ts.length x) (c2 : W1.cell? ⟨b2, 0, none⟩ = some (.pointer (some ⟨pb, 0, none⟩))) (hbel : RowKit.Below W1.heap.size W1 w)
    (hown : Own W1.heap.size w (.slice (some ⟨g, 0, none⟩) xs.length cap) xs) (hf : ∀ l ∈ xs, falB ts l = true) (hl : xs.length ≤ 20000) :
    Calls Try.prog 50 #[.slice (some ⟨g, 0, none⟩) xs.length cap, .func (.func 51) #[] #[.pointer (some ⟨b2, 0, none⟩)]] w fun e w' => e = .returned (.tuple #[]) ∧ ∃ ys, SrtP W1.heap.size W1 w' ts g cap xs ys := by
  cases hxs : xs with
  | nil =>
    rw [hxs] at hown
    refine (sort_none (some ⟨g, 0, none⟩) cap _ w).mono ?_
    rintro e w' ⟨rfl, rfl⟩
    exact ⟨rfl, [], List.Perm.refl _, fun i j hij hj => by simp at hj, hown, hbel⟩
  | cons x0 xt =>
    rw [← hxs]
    have inh : Inhabited (FL ts) := ⟨⟨x0, hf x0 (by rw [hxs]; simp)⟩⟩
    let zs : List (FL ts) := xs.pmap (fun l h => (⟨l, h⟩ : FL ts)) hf
    have hzl : zs.length = xs.length := by simp [zs]
    have hzm : zs.map (fun z => z.1) = xs := pmap_val ts xs hf
    have hze : zs.map (encF ts) = xs.map (Value.int .i64) := by
      conv => rhs; rw [← hzm]
      rw [List.map_map]; rfl
    have hown' : w.ownsRow W1.heap.size 3 1 (.slice (some ⟨g, 0, none⟩) xs.length cap) xs.length (zs.map (encF ts)) := by rw [hze]; exact hown
    obtain ⟨g', cap', e', hbg, hgl, hcap, hcm, _, hH⟩ := Lib.holds_of_ownsRow hown' (by simp)
    cases e'
    have eg : ∀ args w, (callFunc 51 args).run Try.prog w = .ok (.enter 51 args) w := enters_of Try.func51 (by kernel_rfl) rfl
    have hcmp : CmpLays1 Try.prog 51 #[.pointer (some ⟨b2, 0, none⟩)] (encF ts) (cfF ts) g 0 zs.toArray.size w := by
      intro m os dk _ u v
      have hb := below_sort (enc := encF ts) (m := m) (dk := dk) (os := os) hbel hbg
      exact cmp51_any _ b2 pb ts x u.1 v.1 (hP.below hb) ((hb.cell (p := ⟨b2, 0, none⟩) (World.block_lt_of_cell? W1 _ c2)).trans c2) u.2 v.2
    have hs : zs.toArray.size = xs.length := by simpa using hzl
    have hcon := Any.slices_SortFunc Try.sortLits (encF ts) (fun _ => rfl) (cfF ts) (swo_F ts) 51 #[.pointer (some ⟨b2, 0, none⟩)] g 0 cap zs.toArray w eg hcmp hH hgl (by rw [hs]; omega)
    rw [hs] at hcon
    refine Calls.mono (f := 50) hcon ?_
    rintro e w' ⟨rfl, d', n, os, hp, hso, rfl⟩
    have hsz : d'.size = xs.length := by rw [hp.1, hs]
    have hperm : d'.toList.Perm zs := by
      have := hp.2.2
      simp at this
      rw [List.take_of_length_le (by simp; omega)] at this
      first | exact this | (rw [List.take_of_length_le (by omega)] at this; exact this) | (rw [List.take_of_length_le (by simp; omega)] at this; exact this)
    have hlen : (d'.toList.map (fun z => z.1)).length = xs.length := by simpa using hsz
    refine ⟨rfl, d'.toList.map (fun z => z.1), ?_, ?_, ?_, ?_⟩
    · have := hperm.map (fun z => z.1)
      rw [hzm] at this
      exact this
    · intro i j hij hj
      have hj' : j < d'.size := by rw [hlen] at hj; omega
      have := hso i j (Nat.zero_le _) hij (by omega)
      rw [ltF_false] at this
      simpa [getElem!_pos, hj', (by omega : i < d'.size)] using this
    · have hc := Lib.ownsRow_putRow (q := n) (k := xs.length) (ys := d'.toList) hown' (by simpa using hsz) (Nat.le_refl _)
      rw [List.take_of_length_le (by simp; omega), Array.toArray_toList] at hc
      unfold Own
      rw [hlen]
      have e1 : (d'.toList.map (fun z => z.1)).map (Value.int .i64) = d'.toList.map (encF ts) := by rw [List.map_map]; rfl
      rw [e1]
      exact World.ownsRow.kept hc (grown_grow _ os) (by right; simp [Value.ownBlock])
    · exact below_sort hbel hbg

end Go.Proofs.Ytaepanmkofhgoaa
