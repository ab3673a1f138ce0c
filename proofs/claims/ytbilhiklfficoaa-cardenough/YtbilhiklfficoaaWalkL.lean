/- Contracts: note of any pair; a copy of nodes as a row of its own. -/
import Derived.Test.YtbilhiklfficoaaEvA
set_option linter.unusedVariables false
set_option linter.unusedSimpArgs false
namespace Go.Proofs.Ytbilhiklfficoaa
open Go.RowKit Go.Maps

/-- One node more, of which the map tells. -/
theorem map_some {D : DataW Unit} {g : List Gt} (h : MapOk D g) {t : Gt} {i : Nat} (hf : findF g (keyF t) = some i) : MapOk D (g ++ [t]) := by
  intro c d hc hcd hd
  have := h c d hc hcd hd
  rw [find_snoc]
  cases hx : findF g (c, d) with
  | some j => rw [hx] at this; exact this
  | none =>
    rw [hx] at this
    have : ¬ keyF t = (c, d) := by rintro e; rw [e, hx] at hf; cases hf
    simp only [this, if_false]
    assumption
theorem map_more {D : DataW Unit} {g : List Gt} (h : MapOk D g) (hD : IsMap D) {t : Gt} {a b : Int} (ht : keyF t = (a, b)) (ha : 0 ≤ a) (hab : a ≤ b) (hb : b ≤ 9223372036854775807) (hf : findF g (a, b) = none) :
    MapOk (D.put (kl a b) (.lit (.int .i64 (2 * ((g.length : Int) + 1))))) (g ++ [t]) := by
  intro c d hc hcd hd
  rw [find_snoc, ht]
  by_cases e : (a, b) = (c, d)
  · cases e
    rw [hf]
    simp only [if_true]
    exact ⟨has_put_same hD (show WideAt.IsKeyLit (kl a b) from trivial) _, atKey_put_same hD (show WideAt.IsKeyLit (kl a b) from trivial) _ _⟩
  · have hne : kl c d ≠ kl a b := key_ne ha hab hb hc hcd hd (fun h => e h.symm)
    have := h c d hc hcd hd
    cases hx : findF g (c, d) with
    | some i =>
      rw [hx] at this
      simp only
      rw [has_put_other hne, atKey_put_other hne]
      exact this
    | none =>
      rw [hx] at this
      simp only [e, if_false]
      rw [has_put_other hne]
      exact this

set_option maxHeartbeats 4000000 in
theorem note_gen (w : World) (B M k : Nat) (v : Value) (g gx : List Gt) (D : DataW Unit) (x y a b l : Int) (hA : Gw w B M v gx D k) (hm : MapOk D g) (hk : k ≤ 2000000) (hxa : min x y = a) (hxb : max x y = b) (ha : 0 ≤ a) (hab : a ≤ b) (hb : b ≤ 9223372036854775807) (hl : inI64 l) :
    Calls Try.prog 45 #[.pointer (some ⟨B, 0, none⟩), .agg #[.int .i64 x, .int .i64 y], .int .i64 l] w fun e w' => e = .returned (.tuple #[]) ∧
      Gw w' B M v gx (match findF g (a, b) with | some _ => D | none => D.put (kl a b) (.lit (.int .i64 l))) (k + 1) ∧ Kp (Sv B M v) w w' := by
  obtain ⟨mn, mx⟩ : (∀ W, Sem.run Try.prog (Builtin.min_ #[3, 3] 3 #[.int .i64 x, .int .i64 y]) W = .ok (.int .i64 a) W) ∧ (∀ W, Sem.run Try.prog (Builtin.max_ #[3, 3] 3 #[.int .i64 x, .int .i64 y]) W = .ok (.int .i64 b) W) := by
    refine ⟨fun W => ?_, fun W => ?_⟩
    · have := (run_minmax x y W).1; rwa [hxa] at this
    · have := (run_minmax x y W).2; rwa [hxb] at this
  have LK0 := hA.look hm ha hab hb
  have HA := hide hA
  have hkey : keyOf Try.prog 60 (.agg #[.int .i64 a, .int .i64 b]) = some (kl a b) := key53 (by unfold inI64; omega) (by unfold inI64; omega)
  have hw1 : (Lit.int .i64 l).wf = true := WalkArith.wf_i64 hl
  have hel : plainElem (H := Unit) Try.prog 3 (.int .i64 l) = some (.lit (.int .i64 l), []) := plainElem_int Try.underlying3 hw1
  have hlk : lookF g a b = match findF g (a, b) with | some i => (2 * ((i : Int) + 1), true) | none => (0, false) := rfl
  clear hl hw1 hm hA hxa hxb
  generalize hF : findF g (a, b) = F at *
  clear hF
  obtain ⟨p, r⟩ : ∃ p, p = lookF g a b := ⟨_, rfl⟩
  rw [← r] at LK0 hlk
  clear r
  go_enter Try.func45, Try.ntmps45
  go_upto_region 2 with fail
  refine forget (P := fun W => Code.wp Try.prog _ _ _ W) (fun W => (Hid (Below w.heap.size w W) ∧ W.heap[M]? = w.heap[M]? ∧ W.cell? ⟨w.heap.size + 1, 0, none⟩ = some (.int .i64 a) ∧ W.cell? ⟨w.heap.size + 1, 1, none⟩ = some (.int .i64 b)) ∧ Hid (w.heap.size + 1 < W.heap.size)) ?_ ?_
  · have b1 := below_alloc w (.cells #[.int .i64 x, .int .i64 y] 60)
    have b2 := box2 (w.alloc (.cells #[.int .i64 x, .int .i64 y] 60)) (.int .i64 a) (.int .i64 b) 60
    have b3 := b1.alloc (by simp) (.cells #[.int .i64 a, .int .i64 b] 60)
    have e : (w.alloc (.cells #[.int .i64 x, .int .i64 y] 60)).heap.size = w.heap.size + 1 := by simp
    rw [e] at b2
    exact ⟨⟨b3, b3.block M HA.out.lt.2, b2.1, b2.2.1⟩, by unfold Hid; simp⟩
  rintro W ⟨⟨HB, hM, k0, k1⟩, HZ⟩
  have HM := hide hM
  have c2 := (HA.out.below HB.out).c2
  have LK : ∀ n, (Instr.lookup 63 (.map (some M)) (.agg #[.int .i64 a, .int .i64 b]) true).run Try.prog (W.drewN n) = .ok (.tuple #[.int .i64 p.1, .bool p.2]) (W.drewN n) := fun n => LK0 _ hM
  clear hM LK0
  generalize w.heap.size + 1 = S at *
  cases F with
  | some i =>
    subst hlk
    go_wp2
    go_quiet (fail)
    go_wp2
    all_goals
      go_end0
      exact ⟨rfl, ⟨(HA.out.below HB.out).head, (HA.out.below HB.out).row, (HA.out.below HB.out).map.mono (Nat.le_succ _)⟩, Kp.of_below (below_drewN HB.out _)⟩
  | none =>
    subst hlk
    go_wp2
    go_quiet (fail)
    go_upto_region 4 with fail
    clear LK
    refine forget (P := fun W => Code.wp Try.prog _ _ _ W) (fun W => (Hid (Below w.heap.size w W) ∧ Hid (W.heap[M]? = w.heap[M]?) ∧ W.cell? ⟨S, 0, none⟩ = some (.int .i64 a) ∧ W.cell? ⟨S, 1, none⟩ = some (.int .i64 b)) ∧ W.cell? ⟨B, 2, none⟩ = some (.map (some M))) ⟨⟨below_drewN HB.out _, HM, k0, k1⟩, c2⟩ ?_
    clear k0 k1 c2 HM HZ HB
    rintro W ⟨⟨HB, HM, k0, k1⟩, c2⟩
    have HG := hide ((HA.out.below HB.out).below (w' := W.drew) ⟨rfl, rfl, rfl, Nat.le_refl _, fun _ _ => rfl⟩)
    obtain ⟨w5, hrun, ho, ht⟩ := HG.out.map.store (t := 63) (e := 3) law53 Try.underlying63 (by unfold maxLen; omega) hkey hel
    obtain ⟨hG5, hK5⟩ := HG.out.turned ho ht
    have HG5 := hide hG5
    have HK5 := hide ((Kp.of_below (S := Sv B M v) (below_drewN HB.out 1)).trans hK5 (fun _ _ h => h))
    clear hG5 hK5 ho ht
    go_wp2
    go_region_law (fail)
    all_goals
      go_end0
      exact ⟨rfl, HG5.out, HK5.out⟩
end Go.Proofs.Ytbilhiklfficoaa
