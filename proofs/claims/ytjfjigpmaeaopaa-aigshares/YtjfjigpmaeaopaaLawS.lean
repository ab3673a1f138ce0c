/- The law of sharing, walked. -/
import Derived.Test.YtjfjigpmaeaopaaWalkZ
import Derived.Test.YtjfjigpmaeaopaaPlainC
import Derived.Deep.RegionHeld3
set_option linter.unusedVariables false
set_option linter.unusedSimpArgs false
namespace Go.Proofs.Ytjfjigpmaeaopaa
open Go.RowKit Go.Maps

theorem irr_step {g : List Gt} (hm : May g) (h : Irr g) (t : ActD) : Irr (stepF g t).1 := by
  unfold stepF
  split
  · exact irr_in h
  split
  · exact irr_and hm h _ _
  split
  · exact irr_or hm h _ _
  split
  · exact irr_xor hm h _ _
  split
  · exact irr_ite hm h _ _ _
  · exact h
theorem irr_play : ∀ (l : List ActD) {g : List Gt}, May g → Irr g → Irr (playF g l)
  | [], g, hm, h => h
  | t :: l, g, hm, h => irr_play l (step_grow hm t).may (irr_step hm h t)

theorem Pl.drewN {w W : World} {B M q off : Nat} {v : Value} {g : List Gt} (h : Pl w W B M v q off g) (n : Nat) : Pl w (W.drewN n) B M v q off g where
  gr := h.gr.drewN n
  gs := h.gs.below ⟨rfl, rfl, rfl, Nat.le_refl _, fun _ _ => rfl⟩
  apart := h.apart
  bel := below_drewN h.bel n
  lo := h.lo
  qlt := h.qlt
  ord := h.ord
theorem fields53 : Try.prog.underlying 53 = some (.struct (Try.prog.fieldsOf 53)) := by kernel_rfl
theorem stood53 : Try.prog.stoodInHeld 53 = false := by kernel_rfl
theorem guard53 : Try.prog.eqGuardType Try.prog.depth 53 = false := by kernel_rfl
set_option maxHeartbeats 4000000 in
set_option maxRecDepth 100000 in
theorem shares_any (w : World) (al : Option Addr) (cap : Nat) (l : List ActD) (hl : Acts w al l) (hll : l.length ≤ maxLen) :
    Calls Try.prog 6 #[.slice al l.length cap] w fun e w' => e = .returned (.bool true) ∧ Below w.heap.size w w' := by
  have GP := hide (play_any w al cap l hl hll)
  have hgr := (play_grow (l.take 25) (g := []) (fun i hi => by simp at hi) (fun i hi => by simp at hi))
  have hg75 : (playF [] (l.take 25)).length ≤ 75 := by
    have := hgr.1.len.2
    simp at this; omega
  have HIR := hide (irr_play (l.take 25) (g := []) (fun i hi => by simp at hi) (fun i hi => by simp at hi))
  have HMAY := hide hgr.1.may
  have HORD := hide hgr.2
  clear hl hgr
  unfold PlayP at GP
  generalize playF [] (l.take 25) = g at *
  generalize l.length = L at *
  go_enter Try.func6, Try.ntmps6
  go_upto_region 4 with (first | (go_at_call 8; refine (unhide GP).mono ?_; rintro e w1 ⟨B, M, v, q, off, cq, rfl, hp⟩))
  have HP := hide hp
  clear hp GP
  have AW : Hid (∀ W, Calls Try.prog 13 #[] W fun e w' => e = .returned (.bool true) ∧ Below W.heap.size W w') := fun W => awake_any W
  go_wp2
  go_loopw [6] (fun i W => ∃ (k : Nat) (v : Value), k ≤ g.length ∧ i = .int .i64 (k : Int) ∧ Hid (Pl w W B M v q off g)) (fun i _ => g.length - (intOf i).toNat)
  case atStart => exact ⟨0, v, Nat.zero_le _, rfl, HP⟩
  case round =>
    clear HP
    obtain ⟨k, v, hk, rfl, HP⟩ := hrel
    by_cases hlt : k < g.length
    · obtain ⟨q0, off0, eq, hq, z0, z1⟩ := HP.out.gs k hlt
      cases eq
      rcases HIR.out k hlt with hin | hmd
      · rw [hin] at z0 z1
        dsimp only at z0 z1
        go_wp2
        go_roundw
        case rel => exact ⟨k + 1, v, by omega, by go_num, HP⟩
        case measure => simp [intOf]; omega
      · obtain ⟨l1, l2, l3⟩ := hmd.law HMAY.out HORD.out hlt rfl
        have hlo := hmd.lo
        have hlt2 := hmd.lt
        have hhi := hmd.hi
        have AN : Hid (∀ W v, Gr W B M v g → Calls Try.prog 20 #[.pointer (some ⟨B, 0, none⟩), .int .i64 g[k].2, .int .i64 g[k].1] W fun e w' => e = .returned (.int .i64 (2 * (k : Int) + 2)) ∧ GrP W B M v g w') := fun W v h => by
          have := and_any W B M v g g[k].2 g[k].1 h (by omega)
          rw [l3, show 2 * ((k : Int) + 1) = 2 * (k : Int) + 2 by omega] at this
          exact this
        have hne : ∀ j (hj : j < k), ¬ g[j] = (g[k].1, g[k].2) := fun j hj => l2 j hj
        have HNE := hide hne
        clear l2 l3 hne hmd
        have HGS := hide HP.out.gs
        obtain ⟨a, ea⟩ : ∃ a, a = g[k].1 := ⟨_, rfl⟩
        obtain ⟨b, eb⟩ : ∃ b, b = g[k].2 := ⟨_, rfl⟩
        rw [← ea] at hlo hlt2 AN l1 HNE z0
        rw [← eb] at hlt2 hhi AN l1 HNE z1
        have EA := hide ea
        have EB := hide eb
        clear ea eb
        have d1 : decide (a < 2) = false := by simp; omega
        have d2 : (b / 2 == a / 2) = false := by simpa using l1
        have d2' : decide (b / 2 = a / 2) = false := by simpa using l1
        have d3 : decide (b ≤ a) = false := by simp; omega
        have d4 : ¬ a < 0 := by omega
        clear l1
        go_upto_region 8 with fail
        go_wp2
        go_quiet (fail)
        go_upto_region 10 with fail
        refine forget (P := fun W => Code.wp Try.prog _ _ _ W) (fun W => Hid (Pl w W B M v q off g)) (HP.out.drewN _) ?_
        clear HP z0 z1 d1 d2 d2' d3 d4 HGS
        rintro W HP
        go_wp2
        go_loopw [7] (fun j W => ∃ n : Nat, n ≤ k ∧ j = .int .i64 (n : Int) ∧ Hid (Pl w W B M v q off g)) (fun j _ => k - (intOf j).toNat)
        case atStart => exact ⟨0, Nat.zero_le _, rfl, HP⟩
        case round =>
          clear HP
          obtain ⟨n, hn, rfl, HP⟩ := hrel
          obtain ⟨q1, off1, eq, hq1, z0, z1⟩ := HP.out.gs k hlt
          cases eq
          by_cases hlt3 : n < k
          · obtain ⟨q2, off2, eq, hq2, y0, y1⟩ := HP.out.gs n (by omega)
            cases eq
            rw [← EA.out] at z0
            rw [← EB.out] at z1
            have hne := HNE.out n hlt3
            have hcd : ¬ (g[n].1 = a ∧ g[n].2 = b) := fun h => hne (Prod.ext h.1 h.2)
            generalize g[n].1 = c at *
            generalize g[n].2 = d at *
            clear hne
            by_cases x1 : c = a
            · have x2 : ¬ d = b := fun h => hcd ⟨x1, h⟩
              subst x1
              clear hcd
              go_wp2
              go_quiet (fail)
              go_wp2
              go_roundw
              case rel => exact ⟨n + 1, by omega, by go_num, HP.out.drewN _⟩
              case measure => simp [intOf]; omega
            · clear hcd
              go_wp2
              go_quiet (fail)
              go_wp2
              go_roundw
              case rel => exact ⟨n + 1, by omega, by go_num, HP.out.drewN _⟩
              case measure => simp [intOf]; omega
          · rw [← EA.out] at z0
            rw [← EB.out] at z1
            go_upto_region 15 with fail
            go_wp2
            go_region_held3 (fun z => z.cell? ⟨q, off + k * 2, none⟩ = some (.int .i64 a) ∧ z.cell? ⟨q, off + k * 2 + 1, none⟩ = some (.int .i64 b)) (go_keep) (first | (go_at_call 20; refine (unhide AN _ _ (HP.out.gr.drewN 1)).mono ?_; rintro e w2 ⟨rfl, hgp⟩; obtain ⟨v', hph⟩ := (HP.out.drewN 1).prog hgp; obtain ⟨q5, off5, eq5, hq5, t0, t1⟩ := hph.gs k hlt; cases eq5; rw [← EA.out] at t0; rw [← EB.out] at t1))
            all_goals
              have hw1 : IntKind.i64.wrap (2 * (k : Int)) = 2 * (k : Int) := by rw [IntKind.wrap_i64]; omega
              have hw2 : IntKind.i64.wrap (2 * (k : Int) + 2) = 2 * (k : Int) + 2 := by rw [IntKind.wrap_i64]; omega
              have hcmp : (2 * (k : Int) + 2 != IntKind.i64.wrap (IntKind.i64.wrap (2 * (k : Int)) + 2)) = false := by rw [hw1, hw2]; simp
              have HPL : Hid (Pl w w2 B M v' q off g) := ⟨hph.gr, hph.gs, hph.apart, hph.qlt, hph.bel, hph.lo, hph.ord⟩
              clear hph hgp t0 t1
              go_wp2
              go_roundw
              case rel => exact ⟨k + 1, v', by omega, by go_num, HPL⟩
              case measure => simp [intOf]; omega
    · have LN : Hid (∀ W, Below wr.heap.size wr W → Calls Try.prog 11 #[.pointer (some ⟨B, 0, none⟩)] W fun e w' => e = .returned (.int .i64 (g.length : Int)) ∧ w' = W) := fun W hW => len_any W B M v g (HP.out.gr.below hW)
      have HBL := hide HP.out.bel
      clear HP
      go_wp2_with (first
        | (go_at_call 11; refine (unhide LN _ (Below.refl _ _)).mono ?_; rintro e w4 ⟨rfl, hw4⟩; subst w4)
        | (go_at_call 13; refine (unhide AW _).mono ?_; rintro e w6 ⟨rfl, hb6⟩))
      go_ret
      exact ⟨by first | rfl | simp, HBL.out.trans (hb6.mono HBL.out.size)⟩
end Go.Proofs.Ytjfjigpmaeaopaa
