/- Contracts: note, node. -/
import Derived.Test.YtbilhiklfficoaaWalkD
set_option linter.unusedVariables false
set_option linter.unusedSimpArgs false
namespace Go.Proofs.Ytbilhiklfficoaa
open Go.RowKit Go.Maps

theorem find_snoc (g : List Gt) (t p : Gt) : findF (g ++ [t]) p = match findF g p with | some i => some i | none => if keyF t = p then some g.length else none := by
  unfold findF
  rw [List.findIdx?_append]
  cases h : List.findIdx? (fun t => keyF t == p) g with
  | some i => simp
  | none =>
    by_cases e : keyF t = p
    · simp [e]
    · simp [e]
theorem map_new : MapOk (.map []) [] := by
  intro a b _ _ _
  simp [findF]
  rfl
theorem key_ne {a b c d : Int} (ha : 0 ≤ a) (hab : a ≤ b) (hb : b ≤ 9223372036854775807) (hc : 0 ≤ c) (hcd : c ≤ d) (hd : d ≤ 9223372036854775807) (h : (c, d) ≠ (a, b)) : kl c d ≠ kl a b := by
  intro e
  obtain ⟨e1, e2⟩ := kl_inj (by unfold inI64; omega) (by unfold inI64; omega) (by unfold inI64; omega) (by unfold inI64; omega) e
  exact h (by rw [e1, e2])
theorem map_put {D : DataW Unit} {g : List Gt} (h : MapOk D g) (hD : IsMap D) {a b : Int} (ha : 0 ≤ a) (hab : a ≤ b) (hb : b ≤ 9223372036854775807) (hf : findF g (a, b) = none) :
    MapOk (D.put (kl a b) (.lit (.int .i64 (2 * ((g.length : Int) + 1))))) (g ++ [(a, b)]) := by
  intro c d hc hcd hd
  have hk : keyF (a, b) = (a, b) := by unfold keyF; simp [Int.min_eq_left hab, Int.max_eq_right hab]
  rw [find_snoc, hk]
  by_cases e : (a, b) = (c, d)
  · cases e
    rw [hf]
    simp only [if_true]
    exact ⟨has_put_same hD (show WideAt.IsKeyLit (kl a b) from trivial) _, atKey_put_same hD (show WideAt.IsKeyLit (kl a b) from trivial) _ _⟩
  · have hne : kl c d ≠ kl a b := key_ne ha hab hb hc hcd hd (fun h => e h.symm)
    have := h c d hc hcd hd
    cases hx : findF g (c, d) with
    | some i =>
      rw [hx] at this
      simp only
      rw [has_put_other hne, atKey_put_other hne]
      exact this
    | none =>
      rw [hx] at this
      simp only [e, if_false]
      rw [has_put_other hne]
      exact this
theorem map_in {D : DataW Unit} {g : List Gt} (h : MapOk D g) : MapOk D (g ++ [(-1, -1)]) := by
  intro c d hc hcd hd
  rw [find_snoc]
  have hk : ¬ keyF (-1, -1) = (c, d) := by unfold keyF; simp; omega
  have := h c d hc hcd hd
  cases hx : findF g (c, d) with
  | some i => rw [hx] at this; exact this
  | none => rw [hx] at this; simp only [hk, if_false]; exact this

/-- What a look into the map tells. -/
def lookF (g : List Gt) (a b : Int) : Int × Bool := match findF g (a, b) with | some i => (2 * ((i : Int) + 1), true) | none => (0, false)
section
variable {w w' : World} {B M k : Nat} {v : Value} {g : List Gt} {D : DataW Unit}
theorem own_at (h : w.ownsMap Try.prog 60 (plainElem Try.prog 3) M k D) (e : w'.heap[M]? = w.heap[M]?) : w'.ownsMap Try.prog 60 (plainElem Try.prog 3) M k D := by
  obtain ⟨es, clock, hm, r⟩ := h
  exact ⟨es, clock, e.trans hm, r⟩
theorem Gw.look {gx : List Gt} (h : Gw w B M v gx D k) (hm : MapOk D g) {a b : Int} (ha : 0 ≤ a) (hab : a ≤ b) (hb : b ≤ 9223372036854775807) :
    ∀ W' : World, W'.heap[M]? = w.heap[M]? → (Instr.lookup 63 (.map (some M)) (.agg #[.int .i64 a, .int .i64 b]) true).run Try.prog W' = .ok (.tuple #[.int .i64 (lookF g a b).1, .bool (lookF g a b).2]) W' := by
  intro W' e
  have hk : keyOf Try.prog 60 (.agg #[.int .i64 a, .int .i64 b]) = some (kl a b) := key53 (by unfold inI64; omega) (by unfold inI64; omega)
  obtain ⟨u, ps, hrun, hu⟩ := (own_at h.map e).look_ok (t := 63) (e := 3) law53 Try.underlying63 (zero3 W') (plainElem_int Try.underlying3 (a := 0) (by decide)) hk
  obtain ⟨c, rfl, hc, _⟩ := plainElem_int_inv Try.underlying3 hu
  have hc' := congrArg Prod.fst hc
  simp only at hc'
  have := hm a b ha hab hb
  rw [hrun]
  unfold lookF
  cases hx : findF g (a, b) with
  | some i =>
    rw [hx] at this
    rw [this.2] at hc'
    simp at hc'
    simp [this.1, hc'.symm]
  | none =>
    rw [hx] at this
    rw [atKey_of_not_has this] at hc'
    simp at hc'
    simp [this, hc'.symm]
end

theorem run_minmax (a b : Int) (W : World) : Sem.run Try.prog (Builtin.min_ #[3, 3] 3 #[.int .i64 a, .int .i64 b]) W = .ok (.int .i64 (min a b)) W ∧ Sem.run Try.prog (Builtin.max_ #[3, 3] 3 #[.int .i64 a, .int .i64 b]) W = .ok (.int .i64 (max a b)) W := by
  constructor
  · simp [Builtin.min_, Builtin.min2, go_sem]
    try (split <;> first | rfl | omega)
  · simp [Builtin.max_, Builtin.max2, go_sem]
    try (split <;> first | rfl | omega)

set_option maxHeartbeats 2000000 in
theorem note_any (w : World) (B M k : Nat) (v : Value) (g gx : List Gt) (D : DataW Unit) (a b l : Int) (hA : Gw w B M v gx D k) (hm : MapOk D g) (hk : k ≤ 2000000) (ha : 0 ≤ a) (hab : a ≤ b) (hb : b ≤ 9223372036854775807) (hl : inI64 l)
    (hf : findF g (a, b) = none) :
    Calls Try.prog 45 #[.pointer (some ⟨B, 0, none⟩), .agg #[.int .i64 a, .int .i64 b], .int .i64 l] w fun e w' => e = .returned (.tuple #[]) ∧
      Gw w' B M v gx (D.put (kl a b) (.lit (.int .i64 l))) (k + 1) ∧ Kp (Sv B M v) w w' := by
  obtain ⟨mn, mx⟩ : (∀ W, Sem.run Try.prog (Builtin.min_ #[3, 3] 3 #[.int .i64 a, .int .i64 b]) W = .ok (.int .i64 a) W) ∧ (∀ W, Sem.run Try.prog (Builtin.max_ #[3, 3] 3 #[.int .i64 a, .int .i64 b]) W = .ok (.int .i64 b) W) := by
    refine ⟨fun W => ?_, fun W => ?_⟩
    · have := (run_minmax a b W).1; rwa [Int.min_eq_left hab] at this
    · have := (run_minmax a b W).2; rwa [Int.max_eq_right hab] at this
  have LK0 := hA.look hm ha hab hb
  have hlk : lookF g a b = (0, false) := by unfold lookF; rw [hf]
  rw [hlk] at LK0
  simp only at LK0
  have HA := hide hA
  have hkey : keyOf Try.prog 60 (.agg #[.int .i64 a, .int .i64 b]) = some (kl a b) := key53 (by unfold inI64; omega) (by unfold inI64; omega)
  have hw1 : (Lit.int .i64 l).wf = true := WalkArith.wf_i64 hl
  have hel : plainElem (H := Unit) Try.prog 3 (.int .i64 l) = some (.lit (.int .i64 l), []) := plainElem_int Try.underlying3 hw1
  clear hlk hf hl hw1 hm hA
  go_enter Try.func45, Try.ntmps45
  go_upto_region 2 with fail
  refine forget (P := fun W => Code.wp Try.prog _ _ _ W) (fun W => (Hid (Below w.heap.size w W) ∧ W.heap[M]? = w.heap[M]? ∧ W.cell? ⟨w.heap.size + 1, 0, none⟩ = some (.int .i64 a) ∧ W.cell? ⟨w.heap.size + 1, 1, none⟩ = some (.int .i64 b)) ∧ Hid (w.heap.size + 1 < W.heap.size)) ?_ ?_
  · have b1 := below_alloc w (.cells #[.int .i64 a, .int .i64 b] 60)
    have b2 := box2 (w.alloc (.cells #[.int .i64 a, .int .i64 b] 60)) (.int .i64 a) (.int .i64 b) 60
    have b3 := b1.alloc (by simp) (.cells #[.int .i64 a, .int .i64 b] 60)
    have e : (w.alloc (.cells #[.int .i64 a, .int .i64 b] 60)).heap.size = w.heap.size + 1 := by simp
    rw [e] at b2
    exact ⟨⟨b3, b3.block M HA.out.lt.2, b2.1, b2.2.1⟩, by unfold Hid; simp⟩
  rintro W ⟨⟨HB, hM, k0, k1⟩, HZ⟩
  have HM := hide hM
  have c2 := (HA.out.below HB.out).c2
  have LK : ∀ n, (Instr.lookup 63 (.map (some M)) (.agg #[.int .i64 a, .int .i64 b]) true).run Try.prog (W.drewN n) = .ok (.tuple #[.int .i64 0, .bool false]) (W.drewN n) := fun n => LK0 _ hM
  clear hM LK0
  generalize w.heap.size + 1 = S at *
  go_wp2
  go_quiet (fail)
  go_upto_region 4 with fail
  clear LK
  refine forget (P := fun W => Code.wp Try.prog _ _ _ W) (fun W => (Hid (Below w.heap.size w W) ∧ Hid (W.heap[M]? = w.heap[M]?) ∧ W.cell? ⟨S, 0, none⟩ = some (.int .i64 a) ∧ W.cell? ⟨S, 1, none⟩ = some (.int .i64 b)) ∧ W.cell? ⟨B, 2, none⟩ = some (.map (some M))) ⟨⟨below_drewN HB.out _, HM, k0, k1⟩, c2⟩ ?_
  clear k0 k1 c2 HM HZ HB
  rintro W ⟨⟨HB, HM, k0, k1⟩, c2⟩
  have HG := hide ((HA.out.below HB.out).below (w' := W.drew) ⟨rfl, rfl, rfl, Nat.le_refl _, fun _ _ => rfl⟩)
  obtain ⟨w5, hrun, ho, ht⟩ := HG.out.map.store (t := 63) (e := 3) law53 Try.underlying63 (by unfold maxLen; omega) hkey hel
  obtain ⟨hG5, hK5⟩ := HG.out.turned ho ht
  have HG5 := hide hG5
  have HK5 := hide ((Kp.of_below (S := Sv B M v) (below_drewN HB.out 1)).trans hK5 (fun _ _ h => h))
  clear hG5 hK5 ho ht
  go_wp2
  go_region_law (fail)
  all_goals
    go_end0
    exact ⟨rfl, HG5.out, HK5.out⟩
end Go.Proofs.Ytbilhiklfficoaa
