/- Contracts: literals in order, each once. -/
import Derived.Test.YtiddcpemckifmaaWalkF
import Derived.Test.YtiddcpemckifmaaShelf2
set_option linter.unusedVariables false
set_option linter.unusedSimpArgs false
namespace Go.Proofs.Ytiddcpemckifmaa
open Go.RowKit Go.Sort Go.Shelf

theorem grown_grow (w : World) (os : Array Obj) : w.grownBy (grow w os) none :=
  ⟨rfl, rfl, rfl, by simp [grow], fun k hk _ => by simp [grow, Array.getElem?_append, hk]⟩

theorem swo_lits : SWO (ltOf litCmpW) where
  irrefl x := by simp only [ltOf, decide_eq_false_iff_not, litCmpW_lt]; omega
  trans x y z h1 h2 := by simp only [ltOf, decide_eq_true_eq, litCmpW_lt] at *; omega
  ntrans x y z h1 h2 := by simp only [ltOf, decide_eq_false_iff_not, litCmpW_lt] at *; omega

theorem lt_ahead {a b : Int} (ha : -1048576 ≤ a ∧ a ≤ 1048576) (hb : -1048576 ≤ b ∧ b ≤ 1048576) : ltOf litCmpW a b = aheadB a b := by
  rw [Bool.eq_iff_iff, ahead_iff]
  simp only [ltOf, decide_eq_true_eq, litCmpW_lt]
  rw [varW_lit ha.1 ha.2, varW_lit hb.1 hb.2]

theorem sort_any (base : Nat) (v : Value) (xs : List Int) (w : World) (h : Own base w v xs) (hx : Lits xs) (hl : xs.length ≤ 20000) (hb : base ≤ w.heap.size) :
    Calls Try.prog 47 #[v, .func (.func 48) #[] #[]] w fun e w' => e = .returned (.tuple #[]) ∧ ∃ ys : List Int, (∀ x, x ∈ ys ↔ x ∈ xs) ∧ ys.length = xs.length ∧
      (∀ i j, i < j → j < ys.length → aheadB ys.toArray[j]! ys.toArray[i]! = false) ∧ Own base w' v ys ∧ Below base w w' := by
  by_cases hv : v = .slice none 0 0
  · have h0 : xs.length = 0 := by
      rcases h.2 with ⟨_, h0⟩ | ⟨g, cap, cur, e, _⟩
      · exact h0
      · rw [hv] at e; cases e
    have hx : xs = [] := List.length_eq_zero_iff.1 h0
    subst hv; subst hx
    refine (sort_none none 0 _ w).mono ?_
    rintro e w' ⟨rfl, rfl⟩
    exact ⟨rfl, [], by simp, rfl, by simp, World.ownsRow_nil _ _ _ _, Below.refl _ _⟩
  obtain ⟨g, cap, rfl, hbg, hgl, hcap, hcm, _, hH⟩ := Lib.holds_of_ownsRow h hv
  have eg : ∀ args w, (callFunc 48 args).run Try.prog w = .ok (.enter 48 args) w := enters_of Try.func48 (by kernel_rfl) rfl
  have hcmp : CmpLays1 Try.prog 48 #[] (Value.int .i64) litCmpW g 0 xs.toArray.size w :=
    fun m os dk _ x y => (cmpLits_all x y _).mono fun _ _ ⟨he, hw⟩ => ⟨he, 0, #[], by rw [hw, grow_empty]; rfl⟩
  have hcon := Any.slices_SortFunc Try.sortLits (Value.int .i64) (fun _ => rfl) litCmpW swo_lits 48 #[] g 0 cap xs.toArray w eg hcmp hH hgl (by simp; omega)
  have hs : xs.toArray.size = xs.length := by simp
  rw [hs] at hcon
  refine Calls.mono (f := 47) hcon ?_
  rintro e w' ⟨rfl, d', n, os, hp, hso, rfl⟩
  have hsz : d'.size = xs.length := by rw [hp.1, hs]
  have hperm : d'.toList.Perm xs := by
    have := hp.2.2
    simp at this
    rw [List.take_of_length_le (by simp; omega)] at this
    exact this
  refine ⟨rfl, d'.toList, fun x => hperm.mem_iff, by simpa using hsz, ?_, ?_, ?_⟩
  · intro i j hij hj
    have hj' : j < d'.size := by simpa using hj
    have := hso i j (Nat.zero_le _) hij (by omega)
    rw [Array.toArray_toList]
    rw [← lt_ahead]
    · exact this
    · refine hx _ (hperm.mem_iff.1 ?_)
      simp [getElem!_pos, hj']
    · refine hx _ (hperm.mem_iff.1 ?_)
      have hi' : i < d'.size := by omega
      simp [getElem!_pos, hi']
  · have hc := Lib.ownsRow_putRow (q := n) (k := xs.length) (ys := d'.toList) h (by simpa using hsz) (Nat.le_refl _)
    rw [List.take_of_length_le (by simp; omega), Array.toArray_toList] at hc
    have hl' : d'.toList.length = xs.length := by simpa using hsz
    unfold Own
    rw [hl']
    exact World.ownsRow.kept hc (grown_grow _ os) (by right; simp [Value.ownBlock])
  · exact (Lib.below_putRow (Below.refl _ _) hbg).grown (grown_grow _ os) (by simp [putRow, mapBlock, Sort.ahead]; omega) (by intro k hk; cases hk)

set_option maxHeartbeats 400000 in
theorem inOrder_any (base : Nat) (v : Value) (xs : List Int) (w : World) (h : Own base w v xs) (hx : Lits xs) (hl : xs.length ≤ 20000) (hb : base ≤ w.heap.size) :
    Calls Try.prog 33 #[v] w fun e w' => ∃ v', e = .returned v' ∧ Own base w' v' (order xs) ∧ Below base w w' := by
  have hs := hide (sort_any base v xs w h hx hl hb)
  clear h
  go_enter Try.func33, Try.ntmps33
  go_wp2_with fail
  refine (unhide hs).mono ?_
  rintro e w1 ⟨rfl, ys, hm, hyl, hso, hown, hbel⟩
  have hc := hide (compact_any base v ys w1 hown (by omega) (Nat.le_trans hb hbel.size))
  have HE := hide (compact_order hm hso)
  clear hm hso hown hs hyl
  go_wp2_with fail
  refine (unhide hc).mono ?_
  rintro e w2 ⟨v', rfl, hown, hbel2⟩
  go_wp2
  go_ret
  exact ⟨_, rfl, by rw [← HE.out]; exact hown, hbel.trans hbel2⟩

end Go.Proofs.Ytiddcpemckifmaa
