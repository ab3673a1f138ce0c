/- Contracts: node, And. -/
import Derived.Test.YtbilhiklfficoaaWalkE
set_option linter.unusedVariables false
set_option linter.unusedSimpArgs false
namespace Go.Proofs.Ytbilhiklfficoaa
open Go.RowKit Go.Maps

/-- What a call leaves of a graph. -/
def GrP (w : World) (B M : Nat) (v : Value) (g' : List Gt) (w' : World) : Prop := ∃ v', Gr w' B M v' g' ∧ Kp (Sv B M v) w w' ∧ NewV w v v'

theorem NewV.refl (w : World) (v : Value) : NewV w v v := .inl rfl
theorem sv_new {w : World} {B M : Nat} {v v' : Value} (h : NewV w v v') : ∀ x, x < w.heap.size → Sv B M v' x → Sv B M v x := by
  intro x hx hs
  rcases hs with h1 | h1 | h1
  · exact .inl h1
  · exact .inr (.inl h1)
  · rcases h with h | ⟨q, h2, h3⟩
    · exact .inr (.inr (by rw [← h]; exact h1))
    · rw [h2] at h1; cases h1; omega
theorem NewV.trans {w w1 : World} {v v' v'' : Value} (h : NewV w v v') (k : NewV w1 v' v'') (hs : w.heap.size ≤ w1.heap.size) : NewV w v v'' := by
  rcases k with k | ⟨q, k1, k2⟩
  · rcases h with h | ⟨q, h1, h2⟩
    · exact .inl (k.trans h)
    · exact .inr ⟨q, k.trans h1, h2⟩
  · exact .inr ⟨q, k1, by omega⟩
theorem GrP.trans {w w1 w2 : World} {B M : Nat} {v : Value} {g1 g2 : List Gt} (h : GrP w B M v g1 w1) (k : ∀ v', Gr w1 B M v' g1 → GrP w1 B M v' g2 w2) : GrP w B M v g2 w2 := by
  obtain ⟨v1, a1, a2, a3⟩ := h
  obtain ⟨v2, b1, b2, b3⟩ := k v1 a1
  exact ⟨v2, b1, a2.trans b2 (sv_new a3), a3.trans b3 a2.size⟩
theorem GrP.of_below {w w' : World} {B M : Nat} {v : Value} {g : List Gt} (h : Gr w B M v g) (hb : Below w.heap.size w w') : GrP w B M v g w' := ⟨v, h.below hb, Kp.of_below hb, .inl rfl⟩

set_option maxHeartbeats 2000000 in
theorem node_any (w : World) (B M : Nat) (v : Value) (g : List Gt) (a b : Int) (hA : Gr w B M v g) (hl : g.length ≤ 999999) (ha : isB g a = true) (hb : isB g b = true) (hab : a ≤ b) :
    Calls Try.prog 65 #[.pointer (some ⟨B, 0, none⟩), .int .i64 a, .int .i64 b] w fun e w' => e = .returned (.int .i64 (nodeF g a b).2) ∧ GrP w B M v (nodeF g a b).1 w' := by
  have hA1 := isB_iff.1 ha
  have hB1 := isB_iff.1 hb
  obtain ⟨D, hw, hm⟩ := hA.raw
  have hmay := hA.may
  have LK0 := hw.look hm hA1.1 hab (by omega)
  have HW := hide hw
  have HMO := hide hm
  have HGR := hide hA
  have hln : (0 : Int) ≤ g.length := by omega
  have hfc : ∀ i, findF g (a, b) = some i → lookF g a b = (2 * ((i : Int) + 1), true) ∧ nodeF g a b = (g, 2 * ((i : Int) + 1)) := fun i h => by unfold lookF nodeF; rw [h]; exact ⟨rfl, rfl⟩
  have hfn : findF g (a, b) = none → lookF g a b = (0, false) ∧ nodeF g a b = (g ++ [(a, b)], 2 * ((g.length : Int) + 1)) := fun h => by unfold lookF nodeF; rw [h]; exact ⟨rfl, rfl⟩
  have b1 := below_alloc w (.cells #[.int .i64 a, .int .i64 b] 60)
  have b2 := box2 w (.int .i64 a) (.int .i64 b) 60
  clear hA hw hm ha hb
  generalize nodeF g a b = R at *
  go_enter Try.func65, Try.ntmps65
  go_upto_region 2 with fail
  refine forget (P := fun W => Code.wp Try.prog _ _ _ W) (fun W => (Hid (Below w.heap.size w W) ∧ W.heap[M]? = w.heap[M]? ∧ W.cell? ⟨w.heap.size, 0, none⟩ = some (.int .i64 a) ∧ W.cell? ⟨w.heap.size, 1, none⟩ = some (.int .i64 b)) ∧ Hid (w.heap.size < W.heap.size)) ⟨⟨b1, b1.block M HW.out.lt.2, b2.1, b2.2.1⟩, by unfold Hid; simp⟩ ?_
  clear b1 b2
  rintro W ⟨⟨HB, hM, k0, k1⟩, HZ⟩
  have HM := hide hM
  have c2 := (HW.out.below HB.out).c2
  have LK : ∀ n, (Instr.lookup 63 (.map (some M)) (.agg #[.int .i64 a, .int .i64 b]) true).run Try.prog (W.drewN n) = .ok (.tuple #[.int .i64 (lookF g a b).1, .bool (lookF g a b).2]) (W.drewN n) := fun n => LK0 _ hM
  clear hM LK0
  cases hx : findF g (a, b) with
  | some i =>
    obtain ⟨h1, h2⟩ := hfc i hx
    rw [h1] at LK
    subst h2
    simp only at LK
    clear hfc hfn h1
    generalize w.heap.size = S at k0 k1
    go_wp2
    go_quiet (fail)
    go_wp2
    go_ret
    exact ⟨rfl, GrP.of_below HGR.out (below_drewN HB.out _)⟩
  | none =>
    obtain ⟨h1, h2⟩ := hfn hx
    rw [h1] at LK
    subst h2
    simp only at LK
    clear hfc hfn h1
    go_wp2
    go_quiet (fail)
    go_upto_region 5 with fail
    clear LK
    refine forget (P := fun W => Code.wp Try.prog _ _ _ W) (fun W => (Hid (Below w.heap.size w W) ∧ W.cell? ⟨w.heap.size, 0, none⟩ = some (.int .i64 a) ∧ W.cell? ⟨w.heap.size, 1, none⟩ = some (.int .i64 b)) ∧ Hid (w.heap.size < W.heap.size)) ⟨⟨below_drewN HB.out _, k0, k1⟩, HZ⟩ ?_
    clear k0 k1 c2 HM HB HZ W
    rintro W ⟨⟨HB, k0, k1⟩, HZ⟩
    have HW1 := hide (HW.out.below HB.out)
    have AD := add_any W B M g.length v g D (a, b) HW1.out (by omega)
    dsimp only at AD
    replace AD := hide AD
    have HKW := hide (Kp.of_below (S := Sv B M v) HB.out)
    generalize hS : w.heap.size = S at k0 k1 HZ ⊢
    have HS := hide hS
    clear hS
    go_upto_region 6 with (first | (go_at_call 66; refine (unhide AD).mono ?_; rintro e w1 ⟨rfl, v1, h1, h2, h3⟩))
    have H1 := hide h1
    have H2 := hide (HKW.out.trans h2 (fun _ _ h => h))
    have H3 : Hid (NewV w v v1) := by
      rcases h3 with h | ⟨q, h, h'⟩
      · exact .inl h
      · exact .inr ⟨q, h, by have := HB.out.size; omega⟩
    have hS' : S < W.heap.size := HZ.out
    have hns : ¬ Sv B M v S := by
      have l1 := HGR.out.lt
      have := HS.out
      rintro (h | h | h)
      · omega
      · omega
      · have := l1.2.2 _ h; omega
    have hSb := h2.block S hS' hns
    have e0 : w1.cell? ⟨S, 0, none⟩ = some (.int .i64 a) := (World.cell?_of_block hSb).trans k0
    have e1 : w1.cell? ⟨S, 1, none⟩ = some (.int .i64 b) := (World.cell?_of_block hSb).trans k1
    have NT := hide (note_any w1 B M g.length v1 g (g ++ [(a, b)]) D a b (2 * ((g.length : Int) + 1)) h1 HMO.out (by omega) hA1.1 hab (by omega) (by unfold inI64; omega) hx)
    clear h1 h2 h3 hSb hns k0 k1 AD
    have hge : (2 * ((g.length : Int) + 1) == -1) = false := by simp; omega
    have hge' : decide (2 * ((g.length : Int) + 1) = -1) = false := by simp; omega
    go_wp2_with (first | (go_at_call 45; refine (unhide NT).mono ?_; rintro e w2 ⟨rfl, h4, h5⟩))
    go_ret
    have hlen : (g ++ [(a, b)]).length = g.length + 1 := by simp
    refine ⟨rfl, v1, ?_, H2.out.trans h5 (sv_new H3.out), H3.out⟩
    obtain ⟨D0, -⟩ : ∃ D0 : DataW Unit, D0 = D := ⟨_, rfl⟩
    refine Gw.gr (D := D.put (kl a b) (.lit (.int .i64 (2 * ((g.length : Int) + 1))))) ?_ (map_put HMO.out HW.out.map.isMap hA1.1 hab (by omega) hx) (may_snoc hmay (.inr ⟨hA1.1, hA1.2, hB1.1, hB1.2⟩)) (by rw [hlen]; omega)
    rw [hlen]; exact h4
end Go.Proofs.Ytbilhiklfficoaa
