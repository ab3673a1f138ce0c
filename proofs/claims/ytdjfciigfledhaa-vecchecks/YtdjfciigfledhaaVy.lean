/- The law of bits. -/
import Derived.Test.YtdjfciigfledhaaVv
set_option linter.unusedVariables false
set_option linter.unusedSimpArgs false
namespace Go.Proofs.Ytdjfciigfledhaa
open Go.RowKit Go.Maps

section
variable {w0 w : World} {B M k n pa ca pb cb c x y Q a b f : Nat} {la lb : List Int} {ai : Option Addr} {L : List Bool}
theorem is_lbz {v' : Value} {g' : List Gt} {k' q cq N : Nat} {l : List Int} (h : LB w0 w B M v' g' k' n pa ca pb cb la lb ai c L x y Q a b f) (h1 : 1 ≤ n) (h16 : n ≤ 16) (hw : Wn w g' q cq n l L N) (z : Int) (hz : z = (N : Int)) :
    Calls Try.prog 11 #[.pointer (some ⟨B, 0, none⟩), .slice ai L.length c, .slice (some ⟨q, 0, none⟩) n cq, .int .i64 (n : Int), .int .i64 z] w fun e w' => e = .returned (.bool true) ∧ LB w0 w' B M v' g' k' n pa ca pb cb la lb ai c L x y Q a b f ∧ Below w.heap.size w w' := by
  subst hz
  exact is_lb h h1 h16 hw
end
section
variable (w : World)
set_option maxHeartbeats 8000000 in
set_option maxRecDepth 100000 in
theorem lbits_any (a b f u : Nat) (ha : a ≤ 65535) (hb : b ≤ 65535) (hf : f ≤ 4294967295) (hu : u ≤ 255) :
    Calls Try.prog 5 #[.agg #[.int .u16 (a : Int), .int .u16 (b : Int), .int .u32 (f : Int)], .int .u8 (u : Int)] w fun e w' => e = .returned (.bool true) ∧ Below w.heap.size w w' := by
  obtain ⟨n, hn⟩ : ∃ n, 1 + u % 8 = n := ⟨_, rfl⟩
  have h1 : 1 ≤ n := by omega
  have h8 : n ≤ 8 := by omega
  have hwa : IntKind.i64.wrap (a : Int) = (a : Int) := by rw [IntKind.wrap_i64]; omega
  have hwb : IntKind.i64.wrap (b : Int) = (b : Int) := by rw [IntKind.wrap_i64]; omega
  go_enter Try.func5, Try.ntmps5
  go_upto_region 2 with fail
  rw [show (1 + (u : Int) % 8) = (n : Int) by omega]
  have WS := hide (words_any (w.alloc (.cells #[.int .u16 (a : Int), .int .u16 (b : Int), .int .u32 (f : Int)] 25)) a b f n ha hb hf h1 (by omega))
  have HBX : Hid (Box (w.alloc (.cells #[.int .u16 (a : Int), .int .u16 (b : Int), .int .u32 (f : Int)] 25)) w.heap.size a b f) := heap_alloc_new _ _
  have HBW := hide (below_alloc w (.cells #[.int .u16 (a : Int), .int .u16 (b : Int), .int .u32 (f : Int)] 25))
  clear hn hu
  go_upto_region 3 with (first
    | (go_at_call 9; refine (unhide WS).mono ?_; rintro e w2 ⟨B, M, v, g, pa, ca, pb, cb, la, lb, ai, c, L, rfl, hL, hcnt, hb2, hlo⟩))
  have HBOX := HBX.out.below hb2
  have hsz : (w.alloc (.cells #[.int .u16 (a : Int), .int .u16 (b : Int), .int .u32 (f : Int)] 25)).heap.size = w.heap.size + 1 := by simp
  have HB2 : Below w.heap.size w w2 := HBW.out.trans (hb2.mono (by rw [hsz]; exact Nat.le_succ _))
  rw [hsz] at hlo
  have HL0 := hide (law_start hL HBOX HB2 hlo)
  have HCNT := hide hcnt
  clear hL hb2 hsz hlo hcnt WS HBX HBW HBOX HB2
  have hT := Nat.two_pow_pos n
  have hT8 : 2 ^ n ≤ 256 := Nat.le_trans (Nat.pow_le_pow_right (by omega) h8) (by decide)
  have hx : a % 2 ^ n < 2 ^ n := Nat.mod_lt _ hT
  have hy : b % 2 ^ n < 2 ^ n := Nat.mod_lt _ hT
  have h16 : n ≤ 16 := by omega
  have MD : Hid (∀ (W : World) (z : Int) (r : Nat), inI64 z → z % ((2 ^ n : Nat) : Int) = (r : Int) → Calls Try.prog 10 #[.int .i64 z, .int .i64 (n : Int)] W fun e w' => e = .returned (.int .i64 (r : Int)) ∧ w' = W) := fun W z r hz hr => by
    have h := mod_any W z hz n (by omega)
    rwa [hr] at h
  have M2 : Hid (∀ (W : World) (z : Int) (r : Nat), (z = (a : Int) ∧ r = a % 2 ^ n) ∨ (z = (b : Int) ∧ r = b % 2 ^ n) → Calls Try.prog 10 #[.int .i64 z, .int .i64 (n : Int)] W fun e w' => e = .returned (.int .i64 (r : Int)) ∧ w' = W) := by
    rintro W z r (⟨rfl, rfl⟩ | ⟨rfl, rfl⟩)
    · exact unhide MD W _ _ (by unfold inI64; omega) (by norm_cast)
    · exact unhide MD W _ _ (by unfold inI64; omega) (by norm_cast)
  generalize a % 2 ^ n = x at *
  generalize b % 2 ^ n = y at *
  have c0 := HL0.out.box.c0
  have c1 := HL0.out.box.c1
  go_region_held3 (fun z => z.cell? ⟨w.heap.size, 0, none⟩ = some (.int .u16 (a : Int)) ∧ z.cell? ⟨w.heap.size, 1, none⟩ = some (.int .u16 (b : Int))) (exact ⟨c0, c1⟩)
    (first
      | (go_at_call 10; refine (unhide M2 _ _ _ (by first | exact .inl ⟨rfl, rfl⟩ | exact .inr ⟨rfl, rfl⟩)).mono ?_; rintro e w0 ⟨rfl, hw0⟩; subst w0))
  clear c0 c1 M2 hwa hwb
  have hneg0 : ((2 ^ n : Nat) : Int) - 1 - (x : Int) = ((2 ^ n - 1 - x : Nat) : Int) := by omega
  obtain ⟨t0, ht0⟩ : ∃ s, zipN 0 x y n 0 = s := ⟨_, rfl⟩
  obtain ⟨t1, ht1⟩ : ∃ s, zipN 1 x y n 0 = s := ⟨_, rfl⟩
  obtain ⟨t2, ht2⟩ : ∃ s, zipN 2 x y n 0 = s := ⟨_, rfl⟩
  obtain ⟨sn, hsn⟩ : ∃ s, 2 ^ n - 1 - x = s := ⟨_, rfl⟩
  obtain ⟨sl, hsl⟩ : ∃ s, x * 2 ^ y % 2 ^ n = s := ⟨_, rfl⟩
  obtain ⟨sr, hsr⟩ : ∃ s, x / 2 ^ y = s := ⟨_, rfl⟩
  rw [hsn] at hneg0
  have AN : Hid (∀ (W : World) v g k, LB w W B M v g k n pa ca pb cb la lb ai c L x y w.heap.size a b f → k ≤ 100000 → Calls Try.prog 20 #[.pointer (some ⟨B, 0, none⟩), .slice (some ⟨pa, 0, none⟩) n ca, .slice (some ⟨pb, 0, none⟩) n cb] W (OP w W B M g k 48 n pa ca pb cb la lb ai c L x y w.heap.size a b f t0)) := fun W v g k h hk => by
    have t := andW h hk h1 h16 (h.lw.ax hx) (h.lw.bx hy)
    rwa [ht0] at t
  have OR : Hid (∀ (W : World) v g k, LB w W B M v g k n pa ca pb cb la lb ai c L x y w.heap.size a b f → k ≤ 100000 → Calls Try.prog 22 #[.pointer (some ⟨B, 0, none⟩), .slice (some ⟨pa, 0, none⟩) n ca, .slice (some ⟨pb, 0, none⟩) n cb] W (OP w W B M g k 48 n pa ca pb cb la lb ai c L x y w.heap.size a b f t1)) := fun W v g k h hk => by
    have t := orW h hk h1 h16 (h.lw.ax hx) (h.lw.bx hy)
    rwa [ht1] at t
  have XO : Hid (∀ (W : World) v g k, LB w W B M v g k n pa ca pb cb la lb ai c L x y w.heap.size a b f → k ≤ 100000 → Calls Try.prog 23 #[.pointer (some ⟨B, 0, none⟩), .slice (some ⟨pa, 0, none⟩) n ca, .slice (some ⟨pb, 0, none⟩) n cb] W (OP w W B M g k 48 n pa ca pb cb la lb ai c L x y w.heap.size a b f t2)) := fun W v g k h hk => by
    have t := xorW h hk h1 h16 (h.lw.ax hx) (h.lw.bx hy)
    rwa [ht2] at t
  have NT : Hid (∀ (W : World) v g k, LB w W B M v g k n pa ca pb cb la lb ai c L x y w.heap.size a b f → k ≤ 100000 → Calls Try.prog 24 #[.pointer (some ⟨B, 0, none⟩), .slice (some ⟨pa, 0, none⟩) n ca] W (OP w W B M g k 0 n pa ca pb cb la lb ai c L x y w.heap.size a b f sn)) := fun W v g k h hk => by
    have t := notW h hk h1 h16 (h.lw.ax hx)
    rwa [hsn] at t
  have SL : Hid (∀ (W : World) v g k, LB w W B M v g k n pa ca pb cb la lb ai c L x y w.heap.size a b f → k ≤ 100000 → Calls Try.prog 26 #[.pointer (some ⟨B, 0, none⟩), .slice (some ⟨pa, 0, none⟩) n ca, .slice (some ⟨pb, 0, none⟩) n cb] W (OP w W B M g k 300 n pa ca pb cb la lb ai c L x y w.heap.size a b f sl)) := fun W v g k h hk => by
    have t := shlW h hk h1 h16 (h.lw.ax hx) (h.lw.bx hy)
    rwa [hsl] at t
  have SR : Hid (∀ (W : World) v g k, LB w W B M v g k n pa ca pb cb la lb ai c L x y w.heap.size a b f → k ≤ 100000 → Calls Try.prog 28 #[.pointer (some ⟨B, 0, none⟩), .slice (some ⟨pa, 0, none⟩) n ca, .slice (some ⟨pb, 0, none⟩) n cb] W (OP w W B M g k 300 n pa ca pb cb la lb ai c L x y w.heap.size a b f sr)) := fun W v g k h hk => by
    have t := shrW h hk h1 h16 (h.lw.ax hx) (h.lw.bx hy)
    rwa [hsr] at t
  have RB : Hid (∀ (W : World) (z : Int) (r : Nat), (z = 0 ∧ r = t0) ∨ (z = 1 ∧ r = t1) ∨ (z = 2 ∧ r = t2) → Calls Try.prog 21 #[.int .i64 z, .int .i64 (x : Int), .int .i64 (y : Int), .int .i64 (n : Int)] W fun e w' => e = .returned (.int .i64 (r : Int)) ∧ w' = W) := by
    rintro W z r (⟨rfl, rfl⟩ | ⟨rfl, rfl⟩ | ⟨rfl, rfl⟩)
    · rw [← ht0]; exact refBits_any W 0 x y n (.inl rfl) (by omega) (by omega) h16
    · rw [← ht1]; exact refBits_any W 1 x y n (.inr (.inl rfl)) (by omega) (by omega) h16
    · rw [← ht2]; exact refBits_any W 2 x y n (.inr (.inr rfl)) (by omega) (by omega) h16
  have PW := hide (fun W => power_any W n (by omega))
  have RL : Hid (∀ (W : World), Calls Try.prog 27 #[.int .i64 (x : Int), .int .i64 (y : Int), .int .i64 (n : Int)] W fun e w' => e = .returned (.int .i64 (sl : Int)) ∧ w' = W) := fun W => by rw [← hsl]; exact refShl_any W x y n (by omega) h16
  have RR : Hid (∀ (W : World), Calls Try.prog 29 #[.int .i64 (x : Int), .int .i64 (y : Int), .int .i64 (n : Int)] W fun e w' => e = .returned (.int .i64 (sr : Int)) ∧ w' = W) := fun W => by rw [← hsr]; exact refShr_any W x y n hx h16
  have HL0 := HL0.out
  clear ht0 ht1 ht2 hsn hsl hsr MD
  generalize 2 ^ n = T at *
  have HX := hide hx
  have hTI : (T : Int) ≤ 256 := by omega
  have hx0 : (x : Int) < T := by omega
  have hneg := hneg0
  clear hneg0 hx hy
  go_upto_region 6 with (first
      | (go_at_call 11; refine (is_lb HL5 h1 h16 HW5).mono ?_; rintro e w6 ⟨rfl, HL6, hb6⟩)
      | (go_at_call 23; refine (unhide XO _ _ _ _ HL4 (by omega)).mono ?_; rintro e w5 ⟨q5, v5, g5, l5, rfl, HL5, HW5, HT5⟩)
      | (go_at_call 11; refine (is_lb HL3 h1 h16 HW3).mono ?_; rintro e w4 ⟨rfl, HL4, hb4⟩)
      | (go_at_call 22; refine (unhide OR _ _ _ _ HL2 (by omega)).mono ?_; rintro e w3 ⟨q3, v3, g3, l3, rfl, HL3, HW3, HT3⟩)
      | (go_at_call 11; refine (is_lb HL1 h1 h16 HW1).mono ?_; rintro e w2 ⟨rfl, HL2, hb2⟩)
      | (go_at_call 20; refine (unhide AN _ _ _ _ HL0 (by omega)).mono ?_; rintro e w1 ⟨q1, v1, g1, l1, rfl, HL1, HW1, HT1⟩)
      | (go_at_call 21; refine (unhide RB _ _ _ (by first | exact .inl ⟨rfl, rfl⟩ | exact .inr (.inl ⟨rfl, rfl⟩) | exact .inr (.inr ⟨rfl, rfl⟩))).mono ?_; rintro e w0 ⟨rfl, hw0⟩; subst w0))
  clear AN OR XO RB HL0 HL1 HL2 HL3 HL4 HL5 HW1 HW3 HW5 HT1 HT3 HT5 hb2 hb4 hb6
  go_wp2_with (first
      | (go_at_call 16; refine (awake_any _).mono ?_; rintro e w13 ⟨rfl, hb13⟩; have HL13 := HL12.below hb13)
      | (go_at_call 11; refine (is_lb HL11 h1 h16 HW11).mono ?_; rintro e w12 ⟨rfl, HL12, hb12⟩)
      | (go_at_call 28; refine (unhide SR _ _ _ _ HL10 (by omega)).mono ?_; rintro e w11 ⟨q11, v11, g11, l11, rfl, HL11, HW11, HT11⟩)
      | (go_at_call 11; refine (is_lb HL9 h1 h16 HW9).mono ?_; rintro e w10 ⟨rfl, HL10, hb10⟩)
      | (go_at_call 26; refine (unhide SL _ _ _ _ HL8 (by omega)).mono ?_; rintro e w9 ⟨q9, v9, g9, l9, rfl, HL9, HW9, HT9⟩)
      | (go_at_call 11; refine (is_lbz HL7 h1 h16 HW7 _ (by first | rfl | exact hneg)).mono ?_; rintro e w8 ⟨rfl, HL8, hb8⟩)
      | (go_at_call 24; refine (unhide NT _ _ _ _ HL6 (by omega)).mono ?_; rintro e w7 ⟨q7, v7, g7, l7, rfl, HL7, HW7, HT7⟩)
      | (go_at_call 25; refine (unhide PW _).mono ?_; rintro e w0 ⟨rfl, hw0⟩; subst w0)
      | (go_at_call 27; refine (unhide RL _).mono ?_; rintro e w0 ⟨rfl, hw0⟩; subst w0)
      | (go_at_call 29; refine (unhide RR _).mono ?_; rintro e w0 ⟨rfl, hw0⟩; subst w0))
  go_ret
  exact ⟨rfl, HL13.bel⟩
end
end Go.Proofs.Ytdjfciigfledhaa
