/- Contracts: the law's own small count, and a graph of nodes that came in. -/
import Derived.Test.YtbilhiklfficoaaCk
import Derived.Test.YtbilhiklfficoaaWalkM
import Derived.Test.YtbilhiklfficoaaWalkN
set_option linter.unusedVariables false
set_option linter.unusedSimpArgs false
namespace Go.Proofs.Ytbilhiklfficoaa
open Go.RowKit Go.Maps

/-- A word of a graph without nodes is constants. -/
theorem wt_nil {l : List Int} {f : List Bool → List Bool} (h : Wt [] l f) (ins : List Bool) : l = (f ins).map fun b => if b then 1 else 0 := by
  rw [← h.2 ins]
  unfold bitsW
  rw [List.map_map]
  have : l.map id = l.map ((fun b : Bool => if b then (1 : Int) else 0) ∘ valF (allV ins [])) := List.map_congr_left fun k hk => by
    show k = if valF (allV ins []) k then 1 else 0
    rcases isB_nil (h.1 k hk) with rfl | rfl
    · rw [val_zero]; rfl
    · rw [val_one]; rfl
  rwa [List.map_id] at this
theorem wt_101 : Wt [] [1, 0, 1] (fun _ => [true, false, true]) := ⟨wd_const fun k hk => by simp at hk; omega, fun ins => by
  unfold bitsW
  simp [val_zero, val_one]⟩

section
variable (w : World)
set_option maxHeartbeats 4000000 in
theorem awake_any : Calls Try.prog 8 #[] w fun e w' => e = .returned (.bool true) ∧ Below w.heap.size w w' := by
  have CN : Hid (∀ (W : World) B M v q, Gr W B M v [] → Fr W B M v (some ⟨q, 0, none⟩) [1, 0, 1] → Calls Try.prog 9 #[.pointer (some ⟨B, 0, none⟩), .slice (some ⟨q, 0, none⟩) 3 3] W fun e w' => ∃ q' v', e = .returned (.slice (some ⟨q', 0, none⟩) 2 2) ∧ St W w' B M v v' [] [] 4000 ∧ Row w' (some ⟨q', 0, none⟩) [0, 1]) := by
    intro W B M v q h1 h2
    have h := count_yes W B M v [] (some ⟨q, 0, none⟩) 3 [1, 0, 1] 3 _ h1 (by simp) rfl (by omega) h2.row (fun e => by cases e) wt_101
    rw [show enN 3 = 2 by decide] at h
    refine h.mono fun e w' ⟨f, ⟨q', l', v', g', he, s, r⟩, hn⟩ => ?_
    obtain rfl := s.emp rfl
    have e1 := wt_nil r.wt []
    have e2 : f [] = [false, true] := numB_inj _ _ (by rw [r.wt.len []]; exact r.len) (by rw [hn []]; rfl)
    rw [e2] at e1
    subst e1
    exact ⟨q', v', he, s, r.rw.row⟩
  have JS : Hid (∀ (W : World) B M v q, Gr W B M v [] → Fr W B M v (some ⟨q, 0, none⟩) [1, 0, 1] → Calls Try.prog 18 #[.pointer (some ⟨B, 0, none⟩), .slice (some ⟨q, 0, none⟩) 3 3, .int .i64 2] W fun e w' => ∃ v', e = .returned (.int .i64 1) ∧ St W w' B M v v' [] [] 5000) := by
    intro W B M v q h1 h2
    refine (just_yes W B M v [] (some ⟨q, 0, none⟩) 3 [1, 0, 1] 3 _ 2 (by unfold inI64; omega) h1 (by simp) rfl (by omega) h2.row (fun e => by cases e) wt_101).mono fun e w' ⟨x, v', g', he, s, r⟩ => ?_
    obtain rfl := s.emp rfl
    have e1 := lt_nil r []
    exact ⟨v', by rw [he, e1]; rfl, s⟩
  have MS : Hid (∀ (W : World) B M v, Gr W B M v [] → Calls Try.prog 17 #[.pointer (some ⟨B, 0, none⟩), .slice none 0 0, .int .i64 (-5)] W fun e w' => ∃ v', e = .returned (.int .i64 0) ∧ St W w' B M v v' [] [] 5000) := by
    intro W B M v h1
    refine (most_yes W B M v [] none 0 [] 0 (fun _ => []) (-5) (by unfold inI64; omega) h1 (by simp) rfl (by omega) (fun k hk => by simp at hk) (fun _ => rfl) Wt.nil).mono fun e w' ⟨x, v', g', he, s, r⟩ => ?_
    obtain rfl := s.emp rfl
    have e1 := lt_nil r []
    exact ⟨v', by rw [he, e1]; rfl, s⟩
  have IS : Hid (∀ W ax bx, Row W ax [0, 1] → Row W bx [0, 1] → Calls Try.prog 26 #[.slice ax 2 2, .slice bx 2 2] W fun e w' => e = .returned (.bool true) ∧ ∃ m, w' = W.drewN m) := fun W ax bx h1 h2 => ints_same W ax bx 2 2 [0, 1] 2 rfl (by omega) h1 h2
  have L2 : Hid (∀ W : World, Row (W.alloc (.cells #[.int .i64 0, .int .i64 1] 3)) (some ⟨W.heap.size, 0, none⟩) [0, 1]) := fun W => by
    have h : Rw (W.alloc (.cells #[.int .i64 0, .int .i64 1] 3)) W.heap.size [0, 1] := heap_alloc_new _ _
    exact h.row
  have L3 : Hid (∀ (W : World) B M v, Gr W B M v [] → Gr (W.alloc (.cells #[.int .i64 1, .int .i64 0, .int .i64 1] 3)) B M v [] ∧ Fr (W.alloc (.cells #[.int .i64 1, .int .i64 0, .int .i64 1] 3)) B M v (some ⟨W.heap.size, 0, none⟩) [1, 0, 1]) := fun W B M v h => by
    have hr : Rw (W.alloc (.cells #[.int .i64 1, .int .i64 0, .int .i64 1] 3)) W.heap.size [1, 0, 1] := heap_alloc_new _ _
    exact ⟨h.below (below_alloc _ _), fr_new h hr (Nat.le_refl _)⟩
  go_enter Try.func8, Try.ntmps8
  go_wp2_with (first
    | (go_at_call 25; refine (new_any _).mono ?_; rintro e w1 ⟨B, M, rfl, hG, hb1, hB, hM⟩; have hG1 := unhide L3 _ _ _ _ hG)
    | (go_at_call 9; refine (unhide CN _ _ _ _ _ hG1.1 hG1.2).mono ?_; rintro e w2 ⟨q2, v2, rfl, s2, r2⟩; have hr2 := r2.below (below_alloc w2 (.cells #[.int .i64 0, .int .i64 1] 3)))
    | (go_at_call 26; refine (unhide IS _ _ _ hr2 (unhide L2 _)).mono ?_; rintro e w3 ⟨rfl, m3, hw3⟩; subst w3; have hG4 := unhide L3 _ _ _ _ ((s2.gr.below (below_alloc w2 (.cells #[.int .i64 0, .int .i64 1] 3))).drewN m3); rw [show ((w2.alloc (.cells #[.int .i64 0, .int .i64 1] 3)).drewN m3).heap.size = w2.heap.size + 1 by simp] at hG4)
    | (go_at_call 18; refine (unhide JS _ _ _ _ _ hG4.1 hG4.2).mono ?_; rintro e w4 ⟨v4, rfl, s4⟩)
    | (go_at_call 17; refine (unhide MS _ _ _ _ s4.gr).mono ?_; rintro e w5 ⟨v5, rfl, s5⟩))
  have HS : Hid (Below w.heap.size w w5) := by
    have a1 := below_kp (hb1.alloc hb1.size (.cells #[.int .i64 1, .int .i64 0, .int .i64 1] 3)) s2.kp (by
      rintro b (h | h | h)
      · omega
      · omega
      · cases h) (Nat.le_trans hb1.size (below_alloc w1 _).size)
    have lo2 := sv_lo (w := w) (v := .slice none 0 0) (v' := v2) (B := B) (M := M) (by rintro b (h | h | h); omega; omega; cases h) s2.nv (Nat.le_trans hb1.size (below_alloc w1 (.cells #[.int .i64 1, .int .i64 0, .int .i64 1] 3)).size)
    have a2 := ((below_drewN (a1.alloc a1.size (.cells #[.int .i64 0, .int .i64 1] 3)) m3).alloc (Nat.le_trans a1.size (below_alloc w2 _).size) (.cells #[.int .i64 1, .int .i64 0, .int .i64 1] 3))
    have a3 := below_kp a2 s4.kp lo2 a2.size
    have lo4 := sv_lo (w := w) lo2 s4.nv a2.size
    exact below_kp a3 s5.kp lo4 a3.size
  go_ret
  exact ⟨rfl, HS.out⟩

/-- What begin tells. -/
def BegP (w : World) (g : List Gt) (e : Ending) (w' : World) : Prop :=
  ∃ B M v, e = .returned (.tuple #[.pointer (some ⟨B, 0, none⟩), .bool true]) ∧ Gr w' B M v g ∧ Below w.heap.size w w' ∧ ∀ b, Sv B M v b → w.heap.size ≤ b
set_option maxHeartbeats 1000000 in
theorem begin_no (ag ax : Option Addr) (cg ca : Nat) (g : List Gt) (l : List Int) (hg : GS w ag g) (hgl : g.length ≤ maxLen) (hal : l.length ≤ maxLen) (h : 12 < g.length ∨ 100 < l.length ∨ ¬ May g) :
    Calls Try.prog 7 #[.slice ag g.length cg, .slice ax l.length ca] w fun e w' => e = .returned (.tuple #[.pointer none, .bool false]) ∧ Below w.heap.size w w' := by
  unfold maxLen at hgl hal
  by_cases h1 : (12 : Int) < (g.length : Int)
  · generalize l.length = n at *
    clear hg h
    generalize g.length = gl at *
    go_enter Try.func7, Try.ntmps7
    go_wp2
    go_ret2
    exact ⟨rfl, Below.refl _ _⟩
  by_cases h2 : (100 : Int) < (l.length : Int)
  · generalize l.length = n at *
    clear hg h
    generalize g.length = gl at *
    go_enter Try.func7, Try.ntmps7
    go_wp2
    go_ret2
    exact ⟨rfl, Below.refl _ _⟩
  have hm : ¬ May g := by
    rcases h with h | h | h
    · omega
    · omega
    · exact h
  have MR := refMay_any w ag cg g hg (by omega)
  replace MR : Hid (Calls Try.prog 23 #[.slice ag g.length cg] w fun e w' => e = .returned (.bool false) ∧ ∃ n, w' = w.drewN n) := MR.mono fun e w' ⟨r, he, hr, hn⟩ => by
    cases r with
    | true => exact absurd (hr.1 rfl) hm
    | false => exact ⟨he, hn⟩
  clear hg h hm
  generalize l.length = n at *
  generalize g.length = gl at *
  go_enter Try.func7, Try.ntmps7
  go_wp2_with (go_at_call 23; refine (unhide MR).mono ?_; rintro e w0 ⟨rfl, j, hw0⟩; subst w0)
  go_ret2
  exact ⟨rfl, below_drewN (Below.refl _ _) j⟩

set_option maxHeartbeats 1000000 in
theorem begin_yes (ag ax : Option Addr) (cg ca : Nat) (g : List Gt) (l : List Int) (hg : GS w ag g) (hf : ag = none → g = [] ∧ cg = 0) (hgl : g.length ≤ 12) (hal : l.length ≤ 100) (hmay : May g) :
    Calls Try.prog 7 #[.slice ag g.length cg, .slice ax l.length ca] w (BegP w g) := by
  have MR := refMay_any w ag cg g hg (by omega)
  replace MR : Hid (Calls Try.prog 23 #[.slice ag g.length cg] w fun e w' => e = .returned (.bool true) ∧ ∃ n, w' = w.drewN n) := MR.mono fun e w' ⟨r, he, hr, hn⟩ => by
    rw [hr.2 hmay] at he
    exact ⟨he, hn⟩
  have LD : Hid (∀ j, Calls Try.prog 24 #[.slice ag g.length cg] (w.drewN j) fun e w' => ∃ B M v, e = .returned (.tuple #[.pointer (some ⟨B, 0, none⟩), .int .i64 0]) ∧ Gr w' B M v g ∧ Below w.heap.size w w' ∧ ∀ b, Sv B M v b → w.heap.size ≤ b) := fun j => by
    refine (load_yes (w.drewN j) ag cg g (hg.below (below_drewN (Below.refl _ _) j)) hf (by omega) hmay).mono fun e w' ⟨B, M, v, he, h1, h2, h3⟩ => ?_
    exact ⟨B, M, v, he, h1, (below_drewN (Below.refl _ _) j).trans h2, h3⟩
  clear hg hf hmay
  have hg12 : ¬ (12 : Int) < (g.length : Int) := by omega
  have ha40 : ¬ (100 : Int) < (l.length : Int) := by omega
  generalize l.length = n at *
  obtain ⟨gl, hgl2⟩ : ∃ x, g.length = x := ⟨_, rfl⟩
  rw [hgl2] at hg12 hgl MR LD ⊢
  clear hgl2
  go_enter Try.func7, Try.ntmps7
  go_wp2_with (first
    | (go_at_call 23; refine (unhide MR).mono ?_; rintro e w0 ⟨rfl, j, hw0⟩; subst w0)
    | (go_at_call 24; refine (unhide LD _).mono ?_; rintro e w1 ⟨B, M, v, rfl, h1, h2, h3⟩))
  go_ret2
  exact ⟨B, M, v, rfl, h1, h2, h3⟩
end
end Go.Proofs.Ytbilhiklfficoaa
