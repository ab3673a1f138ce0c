/- The document's heap as it lies in memory, and its functions' contracts: what is best, how many. -/
import Derived.Test.YtidhnmooloedmaaWalkA
import Derived.Deep.DeepCutAuto
import Derived.Deep.OwnRows
import Derived.WalkSmall
set_option linter.unusedVariables false
set_option linter.unusedSimpArgs false
namespace Go.Proofs.Ytidhnmooloedmaa
open Go.RowKit

theorem Try.info4 : (Try.prog.info? 4).map (fun i => (i.zero, i.size, i.bytes)) = some (some (.bool false), 1, 1) := by kernel_rfl

/-- A block of truths: its first m are as a function says. -/
def Blb (w : World) (b m c : Nat) (f : Nat → Bool) : Prop :=
  ∃ cur, w.heap[b]? = some (.cells cur 4 (0, 0)) ∧ cur.size = c ∧ m ≤ c ∧ c ≤ maxLen ∧ ∀ i, i < m → cur[i]? = some (.bool (f i))
theorem Blb.lt {w : World} {b m c : Nat} {f : Nat → Bool} (h : Blb w b m c f) : b < w.heap.size := by obtain ⟨cur, h, _⟩ := h; exact lt_of_block h
theorem Blb.cell {w : World} {b m c : Nat} {f : Nat → Bool} (h : Blb w b m c f) {i : Nat} (hi : i < m) : w.cell? ⟨b, i, none⟩ = some (.bool (f i)) := by
  obtain ⟨cur, h, _, _, _, e⟩ := h
  simp [World.cell?, h, e i hi]
theorem Blb.fz {w : World} {b m c : Nat} {f : Nat → Bool} (h : Blb w b m c f) (i : Nat) : w.frozen? ⟨b, i, none⟩ = false := by
  obtain ⟨cur, h, _⟩ := h
  simp [World.frozen?, h]
theorem Blb.same {w w' : World} {b m c : Nat} {f : Nat → Bool} (h : Blb w b m c f) (e : w'.heap[b]? = w.heap[b]?) : Blb w' b m c f := by
  obtain ⟨cur, h, r⟩ := h
  exact ⟨cur, e.trans h, r⟩
theorem Blb.congr {w : World} {b m c : Nat} {f g : Nat → Bool} (h : Blb w b m c f) (e : ∀ i, i < m → g i = f i) : Blb w b m c g := by
  obtain ⟨cur, h, a, b, c, r⟩ := h
  exact ⟨cur, h, a, b, c, fun i hi => by rw [e i hi]; exact r i hi⟩
theorem Blb.set {w : World} {b m c : Nat} {f : Nat → Bool} (h : Blb w b m c f) {i : Nat} (hi : i < m) (x : Bool) : Blb (w.setCell ⟨b, i, none⟩ (.bool x)) b m c (upd f i x) := by
  obtain ⟨cur, h, hc, hm, hx, r⟩ := h
  refine ⟨_, hd_set h, by simpa using hc, hm, hx, fun j hj => ?_⟩
  by_cases e : j = i
  · subst e; rw [upd_same, Array.getElem?_setIfInBounds_self_of_lt (by omega)]
  · rw [upd_other e, Array.getElem?_setIfInBounds_ne (by omega)]; exact r j hj
theorem blb_of_own {w : World} {b m c : Nat} {f : Nat → Bool} (h : w.ownsRow 0 4 1 (.slice (some ⟨b, 0, none⟩) m c) m ((List.range m).map fun i => .bool (f i))) : Blb w b m c f := by
  rcases h.2 with ⟨e, _⟩ | ⟨g, cap, cur, e, _, hg, hm, hx, hs, ht⟩
  · simp at e
  · simp at e
    obtain ⟨rfl, rfl⟩ := e
    refine ⟨cur, hg, by omega, hm, hx, fun i hi => ?_⟩
    have : (cur.toList.take (m * 1))[i]? = some (.bool (f i)) := by rw [ht]; simp [hi]
    rw [List.getElem?_take_of_lt (by omega)] at this
    simpa using this
theorem blb_made {w : World} {g N : Nat} (h : w.heap[g]? = some (.cells (madeCells #[.bool false] N) 4)) (hN : N ≤ maxLen) : Blb w g N N (fun _ => false) := by
  refine ⟨_, h, size_madeCells _ _, Nat.le_refl _, hN, fun i hi => ?_⟩
  rw [← Array.getElem?_toList, toList_madeCells_one]
  simp [hi]

/-- The document's heap: the words of its struct. -/
def rv (a ca b cb n : Nat) (st : Int) : Array Value := #[.slice (some ⟨a, 0, none⟩) (n + 1) ca, .slice (some ⟨b, 0, none⟩) (n + 1) cb, .int .i64 st]
structure Rf (w : World) (a ca b cb n : Nat) (f : Nat → Bool) (sc : Nat → Int) : Prop where
  i : Blb w a (n + 1) ca f
  s : Blk w b (n + 1) cb sc
theorem Rf.below {w w' : World} {a ca b cb n : Nat} {f : Nat → Bool} {sc : Nat → Int} (h : Rf w a ca b cb n f sc) (hb : Below w.heap.size w w') : Rf w' a ca b cb n f sc :=
  ⟨h.i.same (hb.block _ h.i.lt), h.s.same (hb.block _ h.s.lt)⟩
theorem Rf.congr {w : World} {a ca b cb n : Nat} {f g : Nat → Bool} {sc td : Nat → Int} (h : Rf w a ca b cb n f sc) (hf : ∀ v, v ≤ n → g v = f v) (hs : ∀ v, v ≤ n → td v = sc v) : Rf w a ca b cb n g td :=
  ⟨h.i.congr fun i hi => hf i (by omega), h.s.congr fun i hi => hs i (by omega)⟩

/-- A box that holds the document's heap. -/
structure Bxd (w W : World) (X a ca b cb n : Nat) (st : Int) : Prop where
  hd : W.heap[X]? = some (.cells (rv a ca b cb n st) 27 (0, 0))
  bel : Below w.heap.size w W
theorem Bxd.c0 {w W : World} {X a ca b cb n : Nat} {st : Int} (h : Bxd w W X a ca b cb n st) : W.cell? ⟨X, 0, none⟩ = some (.slice (some ⟨a, 0, none⟩) (n + 1) ca) := by simp [World.cell?, h.hd, rv]
theorem Bxd.c1 {w W : World} {X a ca b cb n : Nat} {st : Int} (h : Bxd w W X a ca b cb n st) : W.cell? ⟨X, 1, none⟩ = some (.slice (some ⟨b, 0, none⟩) (n + 1) cb) := by simp [World.cell?, h.hd, rv]
theorem Bxd.c2 {w W : World} {X a ca b cb n : Nat} {st : Int} (h : Bxd w W X a ca b cb n st) : W.cell? ⟨X, 2, none⟩ = some (.int .i64 st) := by simp [World.cell?, h.hd, rv]

set_option maxHeartbeats 1000000 in
theorem refLen_any (w : World) (a ca b cb n : Nat) (f : Nat → Bool) (sc : Nat → Int) (st : Int) (hR : Rf w a ca b cb n f sc) (hn : n ≤ 1048576) :
    Calls Try.prog 10 #[.agg (rv a ca b cb n st)] w fun e w' => e = .returned (.int .i64 (lenF f n : Int)) ∧ Below w.heap.size w w' := by
  unfold rv
  go_enter Try.func10, Try.ntmps10
  go_wp2
  refine forget (P := fun W => Code.wp Try.prog _ _ _ W) (fun W => Hid (Bxd w W w.heap.size a ca b cb n st)) ⟨heap_alloc_new w _, (Below.refl _ _).alloc (Nat.le_refl _) _⟩ ?_
  intro W HX
  have c0 := HX.out.c0
  have hRW := hR.below HX.out.bel
  clear hR
  generalize w.heap.size = X at *
  go_loop [3, 4] (fun x i => ∃ k : Nat, k ≤ n ∧ i = .int .i64 ((k + 1 : Nat) : Int) ∧ x = .int .i64 (lenF f k : Int)) (fun _ i => n + 1 - (intOf i).toNat)
  case atStart => exact ⟨0, Nat.zero_le _, rfl, rfl⟩
  case round =>
    obtain ⟨k, hk, rfl, rfl⟩ := hrel
    have hl := lenF_le f k
    by_cases hlt : k < n
    · have ec := hRW.i.cell (i := k + 1) (by omega)
      have hs : lenF f (k + 1) = lenF f k + if f (k + 1) then 1 else 0 := rfl
      cases hf : f (k + 1) with
      | true =>
        rw [hf] at ec hs
        have HS := hide hs
        clear hs hf hRW
        generalize lenF f k = y at *
        go_wp2
        go_round
        case rel => exact ⟨k + 1, by omega, by go_num, by rw [HS.out]; go_num⟩
        case measure => simp [intOf]; omega
      | false =>
        rw [hf] at ec hs
        have HS := hide hs
        clear hs hf hRW
        generalize lenF f k = y at *
        go_wp2
        go_round
        case rel => exact ⟨k + 1, by omega, by go_num, by rw [HS.out]; go_num⟩
        case measure => simp [intOf]; omega
    · have e : k = n := by omega
      have HE := hide e
      clear e hRW
      go_wp2
      go_ret
      exact ⟨ret_int (by rw [HE.out]), HX.out.bel⟩

set_option maxHeartbeats 1000000 in
theorem refBest_any (w : World) (a ca b cb n : Nat) (f : Nat → Bool) (sc : Nat → Int) (st : Int) (hR : Rf w a ca b cb n f sc) (hn : n ≤ 1048576) :
    Calls Try.prog 25 #[.agg (rv a ca b cb n st)] w fun e w' => e = .returned (.int .i64 (bestF f sc n : Int)) ∧ Below w.heap.size w w' := by
  unfold rv
  go_enter Try.func25, Try.ntmps25
  go_wp2
  refine forget (P := fun W => Code.wp Try.prog _ _ _ W) (fun W => Hid (Bxd w W w.heap.size a ca b cb n st)) ⟨heap_alloc_new w _, (Below.refl _ _).alloc (Nat.le_refl _) _⟩ ?_
  intro W HX
  have c0 := HX.out.c0
  have c1 := HX.out.c1
  have hRW := hR.below HX.out.bel
  clear hR
  generalize w.heap.size = X at *
  go_loopw [3, 4] (fun x i wx => ∃ k q : Nat, k ≤ n ∧ i = .int .i64 ((k + 1 : Nat) : Int) ∧ x = .int .i64 (bestF f sc k : Int) ∧ wx = W.drewN q) (fun _ i _ => n + 1 - (intOf i).toNat)
  case atStart => exact ⟨0, 0, Nat.zero_le _, rfl, rfl, rfl⟩
  case round =>
    obtain ⟨k, q, hk, rfl, rfl, rfl⟩ := hrel
    have hl := bestF_le f sc k
    by_cases hlt : k < n
    · have ec := hRW.i.cell (i := k + 1) (by omega)
      have es := hRW.s.cell (i := k + 1) (by omega)
      have eb := hRW.s.cell (i := bestF f sc k) (by omega)
      have hs : bestF f sc (k + 1) = if f (k + 1) && (decide (bestF f sc k = 0) || decide (sc (k + 1) > sc (bestF f sc k))) then k + 1 else bestF f sc k := rfl
      cases hf : f (k + 1) with
      | true =>
        rw [hf] at ec hs
        generalize bestF f sc k = y at *
        by_cases hy : y = 0
        · subst hy
          have HS : Hid (bestF f sc (k + 1) = k + 1) := by rw [hs]; rfl
          clear hs hf hRW
          go_wp2
          go_quiet (fail)
          go_wp2
          go_roundw
          case rel => exact ⟨k + 1, _, by omega, by go_num, by first | (rw [HS.out]; done) | (rw [HS.out]; go_num), rfl⟩
          case measure => simp [intOf]; omega
        · generalize sc (k + 1) = s1 at *
          generalize sc y = s2 at *
          by_cases hc : s1 > s2
          · have hs' : bestF f sc (k + 1) = k + 1 := by rw [hs]; simp [hc]
            have HS := hide hs'
            clear hs'
            have hy1 : 1 ≤ y := by omega
            have hd : ((y : Int) == 0) = false := by simp; omega
            clear hs hf hRW hy
            go_wp2
            go_quiet (fail)
            go_wp2
            go_roundw
            case rel => exact ⟨k + 1, _, by omega, by go_num, by first | (rw [HS.out]; done) | (rw [HS.out]; go_num), rfl⟩
            case measure => simp [intOf]; omega
          · have hs' : bestF f sc (k + 1) = y := by rw [hs]; simp [hc, hy]
            have HS := hide hs'
            clear hs'
            have hy1 : 1 ≤ y := by omega
            have hd : ((y : Int) == 0) = false := by simp; omega
            clear hs hf hRW hy
            go_wp2
            go_quiet (fail)
            go_wp2
            go_roundw
            case rel => exact ⟨k + 1, _, by omega, by go_num, by rw [HS.out], rfl⟩
            case measure => simp [intOf]; omega
      | false =>
        rw [hf] at ec hs
        have HS : Hid (bestF f sc (k + 1) = bestF f sc k) := by rw [hs]; rfl
        clear hs hf hRW
        generalize bestF f sc k = y at *
        go_wp2
        go_quiet (fail)
        go_wp2
        go_roundw
        case rel => exact ⟨k + 1, _, by omega, by go_num, by rw [HS.out], rfl⟩
        case measure => simp [intOf]; omega
    · have e : k = n := by omega
      have HE := hide e
      clear e hRW
      go_wp2
      go_ret
      exact ⟨ret_int (by rw [HE.out]), below_drewN HX.out.bel _⟩
end Go.Proofs.Ytidhnmooloedmaa
