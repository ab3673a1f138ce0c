/- The law of paces, walked. -/
import Derived.Test.YtdipmcjgdpjlaaaLawT
set_option linter.unusedVariables false
set_option linter.unusedSimpArgs false
namespace Go.Proofs.Ytdipmcjgdpjlaaa
open Go.RowKit

/-- A pace in a box, behind what was there. -/
structure On (w W : World) (b : Nat) (U A L : Int) : Prop where
  p : Tri W b U A L
  bel : Below w.heap.size w W
  hb : w.heap.size ≤ b
theorem On.below {w W W' : World} {b : Nat} {U A L : Int} (h : On w W b U A L) (hb : Below W.heap.size W W') : On w W' b U A L := ⟨h.p.below hb h.p.lt, h.bel.trans (hb.mono h.bel.size), h.hb⟩
theorem On.put {w W : World} {b : Nat} {U A L : Int} (h : On w W b U A L) (x y z : Int) : On w (((W.setCell ⟨b, 0, none⟩ (.int .i64 x)).setCell ⟨b, 1, none⟩ (.int .i64 y)).setCell ⟨b, 2, none⟩ (.int .i64 z)) b x y z :=
  ⟨h.p.put x y z, below_put h.bel h.hb _ _ _, h.hb⟩
theorem on_new {w W : World} (U A L : Int) (h : Below w.heap.size w W) : On w (W.alloc (.cells #[.int .i64 U, .int .i64 A, .int .i64 L] 30)) W.heap.size U A L := ⟨tri_new W U A L, h.alloc h.size _, h.size⟩

set_option maxHeartbeats 4000000 in
set_option maxRecDepth 100000 in
theorem paces_no (x k : Int) (w : World) (h : inB 1048576 x = false) : Calls Try.prog 6 #[.int .i64 x, .int .u8 k] w fun e w' => e = .returned (.bool true) ∧ Below w.heap.size w w' := by
  have CA : Hid (∀ W, Calls Try.prog 10 #[] W fun e w' => e = .returned (.bool true) ∧ w' = W) := fun W => awake_any W
  have CS := hide (start_no x w h)
  rcases inB_false h with hx | hx
  all_goals
    clear h
    go_enter Try.func6, Try.ntmps6
    go_upto_region 2 with (go_at_call 17; refine (unhide CS).mono ?_; rintro e w1 ⟨rfl, hb1⟩)
    refine forget (P := fun W => Code.wp Try.prog _ _ _ W) (fun W => On w W w1.heap.size 0 0 0) (on_new 0 0 0 hb1) ?_
    intro W HO
    have HO0 := hide HO
    obtain ⟨p0, p1, p2, pf⟩ := HO.p.all
    clear HO CS hb1
    generalize w1.heap.size = b at *
    go_wp2_with (go_at_call 10; refine (unhide CA _).mono ?_; rintro e w0 ⟨rfl, hw0⟩; subst w0)
    go_ret
    exact ⟨rfl, HO0.out.bel⟩

theorem tickA (U i : Nat) (u1 : 1 ≤ U) (u2 : U ≤ 20) (i1 : 1 ≤ i) (i2 : i ≤ 40) (k : Nat) (k1 : 1 ≤ k) (k2 : k ≤ U * lub i) : ∃ (A L : Nat) (g : Bool), (∀ W, Calls Try.prog 12 #[.agg #[.int .i64 (U : Int), .int .i64 (i : Int), .int .i64 (k : Int)]] W fun e w' => e = .returned (.tuple #[.agg #[.int .i64 (U : Int), .int .i64 (A : Int), .int .i64 (L : Int)], .bool g]) ∧ Below W.heap.size W w') ∧
    Hid (2 ≤ k ∧ g = false ∧ A = i ∧ L + 1 = k ∨ k = 1 ∧ g = true ∧ A = i + 1 ∧ L = U * lub (i + 1)) := by
  have hl := lub_bd (n := i) i1 (by omega)
  have hkb : (k : Int) ≤ (U : Int) * (lub i : Int) := by exact_mod_cast k2
  have hb := prod_bd (U := (U : Int)) (l := (lub i : Int)) (by omega) (by omega) (by omega) (by omega)
  by_cases hk : k = 1
  · subst hk
    refine ⟨i + 1, U * lub (i + 1), true, fun W => ?_, .inr ⟨rfl, rfl, rfl, rfl⟩⟩
    have := tick_anew U i W u1 (by omega) i1 (by omega) (i + 1) (by rw [if_neg (by omega)])
    exact_mod_cast this
  · refine ⟨i, k - 1, false, fun W => ?_, .inl ⟨by omega, rfl, rfl, by omega⟩⟩
    have := tick_one U i k W (mayB_mk u1 (by omega) i1 (by omega) (by omega) hkb) (by omega) (by omega)
    have e : ((k - 1 : Nat) : Int) = (k : Int) - 1 := by omega
    rw [e]; exact this

set_option maxHeartbeats 4000000 in
set_option maxRecDepth 100000 in
theorem paces_yes (U : Nat) (k : Int) (w : World) (u1 : 1 ≤ U) (u2 : U ≤ 1048576) (hk0 : 0 ≤ k) (hk1 : k ≤ 255) : Calls Try.prog 6 #[.int .i64 (U : Int), .int .u8 k] w fun e w' => e = .returned (.bool true) ∧ Below w.heap.size w w' := by
  have CA : Hid (∀ W, Calls Try.prog 10 #[] W fun e w' => e = .returned (.bool true) ∧ w' = W) := fun W => awake_any W
  have CS := hide (start_yes U w u1 u2)
  go_enter Try.func6, Try.ntmps6
  go_upto_region 2 with (go_at_call 17; refine (unhide CS).mono ?_; rintro e w1 ⟨rfl, hb1⟩)
  refine forget (P := fun W => Code.wp Try.prog _ _ _ W) (fun W => On w W w1.heap.size (U : Int) 1 (U : Int)) (on_new _ _ _ hb1) ?_
  intro W HO
  have HO0 := hide HO
  obtain ⟨p0, p1, p2, pf⟩ := HO.p.all
  clear HO CS hb1
  generalize w1.heap.size = b at *
  by_cases hU : 20 < U
  · go_wp2_with (go_at_call 10; refine (unhide CA _).mono ?_; rintro e w0 ⟨rfl, hw0⟩; subst w0)
    go_ret
    exact ⟨rfl, HO0.out.bel⟩
  · go_upto_region 8 with fail
    clear p0 p1 p2 pf
    obtain ⟨K, hK, hK1⟩ : ∃ K : Nat, k % 40 = (K : Int) ∧ K ≤ 39 := ⟨(k % 40).toNat, by omega, by omega⟩
    go_wp2
    go_loopw [7] (fun i W => ∃ m : Nat, 1 ≤ m ∧ m ≤ K + 1 ∧ i = .int .i64 (m : Int) ∧ Hid (On w W b (U : Int) (m : Int) ((U * lub m : Nat) : Int))) (fun i _ => K + 1 - (intOf i).toNat)
    case atStart => exact ⟨1, by omega, by omega, rfl, by
      have e1 : lub 1 = 1 := lub_end (k := 0) rfl
      rw [e1, Nat.mul_one]; exact HO0⟩
    case round =>
      obtain ⟨m, hm1, hm2, rfl, HO⟩ := hrel
      clear HO0
      by_cases hlt : m ≤ K
      · have CN : Hid (∀ W, Calls Try.prog 8 #[.int .i64 (m : Int)] W fun e w' => e = .returned (.int .i64 (lub m : Int)) ∧ w' = W) := fun W => refNumber_any m W (by omega) (by omega)
        have hl := lub_bd (n := m) (by omega) (by omega)
        have HTA := hide (tickA U m u1 (by omega) hm1 (by omega))
        obtain ⟨R, hR, hRi⟩ : ∃ R : Nat, R = U * lub m ∧ (U : Int) * (lub m : Int) = (R : Int) := ⟨_, rfl, by push_cast; rfl⟩
        have hRb : 1 ≤ R ∧ R ≤ 22548578304 := by
          have := prod_bd (U := (U : Int)) (l := (lub m : Int)) (by omega) (by omega) (by omega) (by omega)
          have h2 : (U : Int) * (lub m : Int) ≤ 20 * 1073741824 := Int.mul_le_mul (by omega) (by omega) (by omega) (by omega)
          omega
        rw [← hR] at HO HTA
        clear hR
        obtain ⟨r1, r2⟩ := hRb
        generalize lub m = l at *
        go_wp2_with (go_at_call 8; refine (unhide CN _).mono ?_; rintro e w0 ⟨rfl, hw0⟩; subst w0)
        go_loopw [8, 9] (fun g q W => ∃ (c : Nat) (h : Bool) (A L : Nat), c ≤ R ∧ g = .bool h ∧ q = .int .i64 (c : Int) ∧ Hid (On w W b (U : Int) (A : Int) (L : Int)) ∧ Hid (1 ≤ c ∧ h = false ∧ A = m ∧ L = c ∨ c = 0 ∧ h = true ∧ A = m + 1 ∧ L = U * lub (m + 1))) (fun _ q _ => (intOf q).toNat)
        case atStart => exact ⟨R, false, m, R, Nat.le_refl _, rfl, rfl, HO, .inl ⟨r1, rfl, rfl, rfl⟩⟩
        case round =>
          obtain ⟨c, h, A, L, hc, rfl, rfl, HO1, HC⟩ := hrel
          clear HO CN
          by_cases hc0 : 0 < c
          · obtain ⟨rfl, rfl, rfl⟩ : h = false ∧ A = m ∧ L = c := by
              rcases HC.out with ⟨_, h1, h2, h3⟩ | ⟨h1, _⟩
              · exact ⟨h1, h2, h3⟩
              · omega
            obtain ⟨A', L', g', CT, HG⟩ := HTA.out L (by omega) hc
            replace CT := hide CT
            have hcb := hc
            obtain ⟨p0, p1, p2, pf⟩ := HO1.out.p.all
            clear HC CA
            go_upto_region 14 with (go_at_call 12; refine (unhide CT _).mono ?_; rintro e w2 ⟨rfl, hb2⟩; have HO2 := HO1.out.below hb2; replace hb2 := hide hb2; have HO3 := hide HO2; obtain ⟨q0, q1, q2, qf⟩ := HO2.p.all; clear HO2)
            refine forget (P := fun W => Code.wp Try.prog _ _ _ W) (fun W => On w W b (U : Int) (A' : Int) (L' : Int)) (HO3.out.put _ _ _) ?_
            clear p0 p1 p2 pf q0 q1 q2 qf hb2 HO1 CT HTA HO3
            intro W5 HO5
            replace HO5 := hide HO5
            have hLb : (L : Int) ≤ 22548578304 := by omega
            go_wp2
            go_roundw
            case rel => exact ⟨L - 1, g', A', L', by omega, rfl, by congr 1; omega, HO5, by
              rcases HG.out with ⟨h1, h2, h3, h4⟩ | ⟨h1, h2, h3, h4⟩
              · exact .inl ⟨by omega, h2, h3, by omega⟩
              · exact .inr ⟨by omega, h2, h3, h4⟩⟩
            case measure => simp [intOf]; omega
          · obtain ⟨rfl, rfl, rfl, rfl⟩ : c = 0 ∧ h = true ∧ A = m + 1 ∧ L = U * lub (m + 1) := by
              rcases HC.out with ⟨h0, _⟩ | h1
              · omega
              · exact h1
            obtain ⟨p0, p1, p2, pf⟩ := HO1.out.p.all
            have hmb : (m : Int) ≤ 40 := by omega
            have hbb : ((((m + 1 : Nat)) : Int) == (m : Int) + 1) = true := by simp
            clear HC CA HTA
            go_wp2
            go_roundw
            case rel => exact ⟨m + 1, by omega, by omega, by go_num, HO1⟩
            case measure => simp [intOf]; omega
      · go_wp2_with (go_at_call 10; refine (unhide CA _).mono ?_; rintro e w0 ⟨rfl, hw0⟩; subst w0)
        go_ret
        exact ⟨rfl, HO.out.bel⟩

theorem paces_any (x k : Int) (w : World) (hk0 : 0 ≤ k) (hk1 : k ≤ 255) : Calls Try.prog 6 #[.int .i64 x, .int .u8 k] w fun e w' => e = .returned (.bool true) ∧ Below w.heap.size w w' := by
  cases h : inB 1048576 x
  · exact paces_no x k w h
  · obtain ⟨h1, h2⟩ := inB_true h
    obtain ⟨U, rfl⟩ : ∃ U : Nat, x = (U : Int) := ⟨x.toNat, by omega⟩
    exact paces_yes U k w (by omega) (by omega) hk0 hk1

end Go.Proofs.Ytdipmcjgdpjlaaa
