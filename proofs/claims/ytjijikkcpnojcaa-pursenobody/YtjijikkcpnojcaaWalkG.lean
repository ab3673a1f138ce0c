/- Contract: a new purse, walked. -/
import Derived.Test.YtjijikkcpnojcaaWalkF
set_option linter.unusedVariables false
set_option linter.unusedSimpArgs false
namespace Go.Proofs.Ytjijikkcpnojcaa
open Go.RowKit Go.Conc

/-- What New tells of numbers. -/
def NewP (w : World) (xs : List Int) (e : Ending) (w' : World) : Prop :=
  Below w.heap.size w w' ∧ ((mayB xs = false ∧ e = .returned (.tuple #[.pointer none, .int .i64 1])) ∨
  (mayB xs = true ∧ ∃ p K kc ch, e = .returned (.tuple #[.pointer (some ⟨p, 0, none⟩), .int .i64 0]) ∧ Pu w' p K kc xs.length ch (roomF xs) (roomF xs) 0 ∧ w.heap.size ≤ p ∧ ∀ i, i < xs.length → w.heap.size ≤ ch i))

theorem may_no {xs : List Int} (h : xs.length < 1 ∨ 8 < xs.length) : mayB xs = false := by
  rcases h with h | h
  · have : decide (1 ≤ xs.length) = false := decide_eq_false (by omega)
    simp [mayB, this]
  · have : decide (xs.length ≤ 8) = false := decide_eq_false (by omega)
    simp [mayB, this]
theorem may_bad {xs : List Int} {k : Nat} (hk : k < xs.length) (h : cntB xs[k] = false) : mayB xs = false := by
  have : xs.all cntB = false := by
    rw [List.all_eq_false]
    exact ⟨xs[k], List.getElem_mem hk, by simp [h]⟩
  simp [mayB, this]
theorem may_yes {xs : List Int} (h1 : 1 ≤ xs.length) (h8 : xs.length ≤ 8) (h : ∀ i (hi : i < xs.length), cntB xs[i] = true) : mayB xs = true := by
  have : xs.all cntB = true := by
    rw [List.all_eq_true]
    intro x hx
    obtain ⟨i, hi, rfl⟩ := List.getElem_of_mem hx
    exact h i hi
  simp [mayB, this, h1, h8]
theorem may_parts {xs : List Int} (h : mayB xs = true) : 1 ≤ xs.length ∧ xs.length ≤ 8 ∧ ∀ i (hi : i < xs.length), xs[i] = (roomF xs i : Int) ∧ roomF xs i ≤ 4096 := by
  simp [mayB] at h
  obtain ⟨⟨ha, h1⟩, h8⟩ := h
  refine ⟨h1, h8, fun i hi => ?_⟩
  obtain ⟨m, hm, hb⟩ := cntB_yes (ha _ (List.getElem_mem hi))
  rw [roomF_at hi hm]
  exact ⟨hm, hb⟩

set_option maxHeartbeats 400000 in
theorem new_len (w : World) (al : Option Addr) (cap : Nat) (xs : List Int) (hl : xs.length ≤ maxLen) (h : xs.length < 1 ∨ 8 < xs.length) :
    Calls Try.prog 7 #[.slice al xs.length cap] w (NewP w xs) := by
  have HM := hide (may_no h)
  unfold maxLen at hl
  rcases h with h | h
  · generalize xs.length = n at *
    go_enter Try.func7, Try.ntmps7
    go_wp2
    all_goals
      go_ret2
      exact ⟨Below.refl _ _, .inl ⟨HM.out, rfl⟩⟩
  · have h1 : ¬ xs.length < 1 := by omega
    generalize xs.length = n at *
    go_enter Try.func7, Try.ntmps7
    go_wp2
    all_goals
      go_ret2
      exact ⟨Below.refl _ _, .inl ⟨HM.out, rfl⟩⟩

theorem good_le {xs : List Int} {k : Nat} (hk : k ≤ xs.length) (h : ∀ i (hi : i < xs.length), i < k → cntB xs[i] = true) : ∀ i, i < k → roomF xs i ≤ 4096 := by
  intro i hi
  obtain ⟨m, hm, hb⟩ := cntB_yes (h i (by omega) hi)
  rw [roomF_at (by omega) hm]
  exact hb

set_option maxHeartbeats 2000000 in
theorem new_any (w : World) (al : Option Addr) (cap : Nat) (xs : List Int) (hr : Row w al xs) (hl : xs.length ≤ maxLen) :
    Calls Try.prog 7 #[.slice al xs.length cap] w (NewP w xs) := by
  by_cases hlen : xs.length < 1 ∨ 8 < xs.length
  · exact new_len w al cap xs hl hlen
  have h1 : 1 ≤ xs.length := by omega
  have h8 : xs.length ≤ 8 := by omega
  have HR := hide hr
  clear hlen hl hr
  obtain ⟨i0, hi, hz0, hz1, hz2⟩ := info_parts Try.info48
  obtain ⟨N, hN⟩ : ∃ N, N = xs.length := ⟨_, rfl⟩
  have hd1 : ¬ N < 1 := by omega
  rw [← hN] at h1 h8 ⊢
  have HN := hide hN
  clear hN
  go_enter Try.func7, Try.ntmps7
  go_upto_region 4 with fail
  refine forget (P := fun W => Code.wp Try.prog _ _ _ W) (fun W => Hid (Nw w W w.heap.size 0 (.slice none 0 0) (fun _ => 0) (roomF xs))) (nw_new w (roomF xs)) ?_
  intro W0 HW0
  generalize hp : w.heap.size = p at *
  go_wp2
  go_loopw [20] (fun x W => ∃ (k : Nat) (kv : Value) (ch : Nat → Nat), k ≤ N ∧ x = .int .i64 (k : Int) ∧ Hid (Nw w W p k kv ch (roomF xs)) ∧ Hid (∀ i (hi : i < xs.length), i < k → cntB xs[i] = true)) (fun x _ => N - (intOf x).toNat)
  case atStart => exact ⟨0, _, _, Nat.zero_le _, rfl, HW0, fun i hi h => absurd h (by omega)⟩
  case round =>
    clear HW0
    obtain ⟨k, kv, ch, hk, rfl, HW, HG⟩ := hrel
    by_cases hlt : k < N
    · obtain ⟨q, off, rfl, hq, cq⟩ := (HR.out.below HW.out.bel) k (by rw [← HN.out]; exact hlt)
      have G := isCount_any wr (xs[k]'(by rw [← HN.out]; exact hlt))
      cases hc : cntB (xs[k]'(by rw [← HN.out]; exact hlt)) with
      | false =>
        rw [hc] at G
        have G := hide G
        have HM := hide (may_bad (by rw [← HN.out]; exact hlt) hc)
        clear hc
        generalize (xs[k]'(by rw [← HN.out]; exact hlt)) = y at *
        go_wp2_with (first | (go_at_call 16; refine (unhide G).mono ?_; rintro e w0 ⟨rfl, hw0⟩; subst w0))
        go_ret2
        exact ⟨HW.out.bel, .inl ⟨HM.out, rfl⟩⟩
      | true =>
        rw [hc] at G
        have G := hide G
        obtain ⟨m, hm, hm4⟩ := cntB_yes hc
        have hrm := roomF_at (by rw [← HN.out]; exact hlt) hm
        have HG2 : Hid (∀ i (hi : i < xs.length), i < k + 1 → cntB xs[i] = true) := by
          intro i hi h
          by_cases e : i = k
          · subst e; exact hc
          · exact HG.out i hi (by omega)
        have HH := hm
        rw [hm] at cq G
        clear hc hm HH HG
        have HRM := hide hrm
        clear hrm
        have mk := make_chan wr m hm4
        have hsum := hide (sumN_bd k (good_le (xs := xs) (k := k) (by rw [← HN.out]; exact hk) (fun i hi h => HG2.out i hi (by omega))))
        have hS := hsum.out
        have x2 : (wr.alloc (.chan m #[] false 0 0 false)).cell? ⟨p, 2, none⟩ = some (.int .i64 (sumN (roomF xs) k : Int)) := by
          rw [World.cell?_of_block (heap_alloc_old wr _ (lt_of_block HW.out.head))]
          simp [World.cell?, HW.out.head]
        have f2 : (wr.alloc (.chan m #[] false 0 0 false)).frozen? ⟨p, 2, none⟩ = false := by
          rw [World.frozen?_of_block (heap_alloc_old wr _ (lt_of_block HW.out.head))]
          simp [World.frozen?, HW.out.head]
        have G3 : Hid (∀ n, Calls Try.prog 17 #[.chan (some wr.heap.size), .int .i64 (m : Int)] ((wr.alloc (.chan m #[] false 0 0 false)).drewN n) fun e w' => e = .returned (.int .i64 (m : Int)) ∧ Ch w' wr.heap.size m m ∧ Kp (fun b => b = wr.heap.size) (wr.alloc (.chan m #[] false 0 0 false)) w' ∧ w'.cell? ⟨p, 2, none⟩ = some (.int .i64 (sumN (roomF xs) k : Int)) ∧ w'.frozen? ⟨p, 2, none⟩ = false) := by
          intro n
          have hch : Ch ((wr.alloc (.chan m #[] false 0 0 false)).drewN n) wr.heap.size m 0 := ⟨#[], 0, 0, heap_alloc_new wr _, rfl⟩
          refine (put_any _ wr.heap.size m 0 m hch hm4 (Nat.zero_le _)).mono ?_
          rintro e w' ⟨rfl, hc, kp⟩
          have e1 : min m (m - 0) = m := by omega
          rw [e1, Nat.zero_add] at hc
          have hlp := lt_of_block HW.out.head
          have hb2 : w'.heap[p]? = (wr.alloc (.chan m #[] false 0 0 false)).heap[p]? := kp.block p (by show p < (wr.alloc (.chan m #[] false 0 0 false)).heap.size; simp; omega) (by omega)
          exact ⟨by rw [e1], hc, ⟨kp.os, kp.tape, kp.output, kp.size, kp.block⟩, (World.cell?_of_block hb2).trans x2, (World.frozen?_of_block hb2).trans f2⟩
        obtain ⟨S, hS'⟩ : ∃ S, S = sumN (roomF xs) k := ⟨_, rfl⟩
        rw [← hS'] at x2 G3 hS
        have HS := hide hS'
        clear hS'
        have hwr : IntKind.i64.wrap ((S : Int) + (m : Int)) = (S : Int) + (m : Int) := by rw [IntKind.wrap_i64]; omega
        go_upto_region 10 with (first | (go_at_call 16; refine (unhide G).mono ?_; rintro e w0 ⟨rfl, hw0⟩; subst w0))
        go_cut [] from 29 to 38 (fun wx => Hid (Nc w wx p k wr.heap.size kv ch (roomF xs)))
        case first =>
          go_region_with (first | (go_at_call 17; refine (unhide G3 _).mono ?_; rintro e w2 ⟨rfl, hc2, kp2, y2, z2⟩))
          all_goals
            go_wp2_with fail
            go_meet
            case rel =>
              have := HW.out.fill 0 (W2 := w2) (by rw [HRM.out]; exact hc2) (by rw [HRM.out]; exact kp2)
              rw [HRM.out, ← HS.out] at this
              exact this
        case rest =>
        have HC := hcut
        clear hcut G3 x2 f2 mk G cq HW hS HS hwr hsum
        generalize wr.heap.size = C at *
        have hown := HC.out.own
        have c1 : wc.cell? ⟨p, 1, none⟩ = some kv := by simp [World.cell?, HC.out.head]
        have f1 : wc.frozen? ⟨p, 1, none⟩ = false := by simp [World.frozen?, HC.out.head]
        have hbs := HC.out.bel.size
        rw [hp] at hown hbs
        go_upto_region 11 with fail
        go_wp2_with (at_builtin; refine wpList_append_lies _ rfl _ _ 41 rfl p 48 i0 (.chan none) 1 8 Try.underlying41 hi hz0 hz1 hz2 rfl (by decide) _ k _ rfl (hown.alloc _) ⟨wc.heap.size, 0, none⟩ 1 1 [.chan (some C)] rfl rfl (World.news_of_block (cs := #[.chan (some C)]) (heap_alloc_new wc _)) (by simp [Value.oneCell']) (by decide) (by unfold maxLen; omega) (by omega) (by simp; omega) (wc.heap.size + 1) (by simp) ?_; intro g1 cap1 w3 hown3 hgrow3 hat3 hlt3; rw [← hp] at hown3; obtain ⟨ep3, hw3⟩ := HC.out.grow (g := g1) (cap := cap1) hgrow3 hown3; have c1' : w3.cell? ⟨p, 1, none⟩ = some kv := (World.cell?_of_block ep3).trans c1; have f1' : w3.frozen? ⟨p, 1, none⟩ = false := (World.frozen?_of_block ep3).trans f1)
        go_roundw
        case rel => exact ⟨k + 1, _, _, by omega, by go_num, hw3, HG2⟩
        case measure => simp [intOf]; omega
    · have hkN : k = N := by omega
      subst hkN
      obtain ⟨K, kc, hkv, hpu⟩ := HW.out.done h1 h8 (good_le (by rw [← HN.out]; exact Nat.le_refl _) HG.out)
      have HPU := hide hpu
      have HBL := hide (HW.out.bel.setCell (p := ⟨p, 0, none⟩) (by exact HW.out.lp) (.pointer (some ⟨p, 0, none⟩)))
      have c0 : wr.cell? ⟨p, 0, none⟩ = some (.pointer none) := by simp [World.cell?, HW.out.head]
      have f0 : wr.frozen? ⟨p, 0, none⟩ = false := by simp [World.frozen?, HW.out.head]
      have HM : Hid (mayB xs = true) := may_yes (by rw [← HN.out]; exact h1) (by rw [← HN.out]; exact h8) (fun i hi => HG.out i hi (by rw [HN.out]; exact hi))
      clear hkv hpu
      go_wp2
      go_ret2
      exact ⟨HBL.out, .inr ⟨HM.out, p, K, kc, ch, rfl, by rw [← HN.out]; exact HPU.out, HW.out.lp, fun i hi => HW.out.lc i (by rw [HN.out]; exact hi)⟩⟩
end Go.Proofs.Ytjijikkcpnojcaa
