/- The law of sums. -/
import Derived.Test.YtdjfciigfledhaaVv
set_option linter.unusedVariables false
set_option linter.unusedSimpArgs false
namespace Go.Proofs.Ytdjfciigfledhaa
open Go.RowKit Go.Maps

theorem sub_mod (x y T : Nat) (hT : 0 < T) (hy : y < T) : ((x : Int) - (y : Int)) % (T : Int) = (((x + (T - y)) % T : Nat) : Int) := by
  have e : ((x + (T - y) : Nat) : Int) = (x : Int) - y + T := by omega
  rw [Int.natCast_emod, e, Int.add_emod_right]
theorem neg_mod (x T : Nat) (hT : 0 < T) (hx : x < T) : (-(x : Int)) % (T : Int) = (((T - x) % T : Nat) : Int) := by
  have e : ((T - x : Nat) : Int) = -(x : Int) + T := by omega
  rw [Int.natCast_emod, e, Int.add_emod_right]

section
variable (w : World)
set_option maxHeartbeats 8000000 in
set_option maxRecDepth 100000 in
theorem sums_any (a b f u : Nat) (ha : a ≤ 65535) (hb : b ≤ 65535) (hf : f ≤ 4294967295) (hu : u ≤ 255) :
    Calls Try.prog 3 #[.agg #[.int .u16 (a : Int), .int .u16 (b : Int), .int .u32 (f : Int)], .int .u8 (u : Int)] w fun e w' => e = .returned (.bool true) ∧ Below w.heap.size w w' := by
  obtain ⟨n, hn⟩ : ∃ n, 1 + u % 8 = n := ⟨_, rfl⟩
  have h1 : 1 ≤ n := by omega
  have h8 : n ≤ 8 := by omega
  have hwa : IntKind.i64.wrap (a : Int) = (a : Int) := by rw [IntKind.wrap_i64]; omega
  have hwb : IntKind.i64.wrap (b : Int) = (b : Int) := by rw [IntKind.wrap_i64]; omega
  go_enter Try.func3, Try.ntmps3
  go_upto_region 2 with fail
  rw [show (1 + (u : Int) % 8) = (n : Int) by omega]
  have WS := hide (words_any (w.alloc (.cells #[.int .u16 (a : Int), .int .u16 (b : Int), .int .u32 (f : Int)] 25)) a b f n ha hb hf h1 (by omega))
  have HBX : Hid (Box (w.alloc (.cells #[.int .u16 (a : Int), .int .u16 (b : Int), .int .u32 (f : Int)] 25)) w.heap.size a b f) := heap_alloc_new _ _
  have HBW := hide (below_alloc w (.cells #[.int .u16 (a : Int), .int .u16 (b : Int), .int .u32 (f : Int)] 25))
  clear hn hu
  go_upto_region 3 with (first
    | (go_at_call 9; refine (unhide WS).mono ?_; rintro e w2 ⟨B, M, v, g, pa, ca, pb, cb, la, lb, ai, c, L, rfl, hL, hcnt, hb2, hlo⟩))
  have HBOX := HBX.out.below hb2
  have hsz : (w.alloc (.cells #[.int .u16 (a : Int), .int .u16 (b : Int), .int .u32 (f : Int)] 25)).heap.size = w.heap.size + 1 := by simp
  have HB2 : Below w.heap.size w w2 := HBW.out.trans (hb2.mono (by rw [hsz]; exact Nat.le_succ _))
  rw [hsz] at hlo
  have HL0 := hide (law_start hL HBOX HB2 hlo)
  have HCNT := hide hcnt
  clear hL hb2 hsz hlo hcnt WS HBX HBW HBOX HB2
  have hT := Nat.two_pow_pos n
  have hT8 : 2 ^ n ≤ 256 := Nat.le_trans (Nat.pow_le_pow_right (by omega) h8) (by decide)
  have hx : a % 2 ^ n < 2 ^ n := Nat.mod_lt _ hT
  have hy : b % 2 ^ n < 2 ^ n := Nat.mod_lt _ hT
  have h16 : n ≤ 16 := by omega
  have MD : Hid (∀ (W : World) (z : Int) (r : Nat), inI64 z → z % ((2 ^ n : Nat) : Int) = (r : Int) → Calls Try.prog 10 #[.int .i64 z, .int .i64 (n : Int)] W fun e w' => e = .returned (.int .i64 (r : Int)) ∧ w' = W) := fun W z r hz hr => by
    have h := mod_any W z hz n (by omega)
    rwa [hr] at h
  have M2 : Hid (∀ (W : World) (z : Int) (r : Nat), (z = (a : Int) ∧ r = a % 2 ^ n) ∨ (z = (b : Int) ∧ r = b % 2 ^ n) → Calls Try.prog 10 #[.int .i64 z, .int .i64 (n : Int)] W fun e w' => e = .returned (.int .i64 (r : Int)) ∧ w' = W) := by
    rintro W z r (⟨rfl, rfl⟩ | ⟨rfl, rfl⟩)
    · exact unhide MD W _ _ (by unfold inI64; omega) (by norm_cast)
    · exact unhide MD W _ _ (by unfold inI64; omega) (by norm_cast)
  generalize a % 2 ^ n = x at *
  generalize b % 2 ^ n = y at *
  have c0 := HL0.out.box.c0
  have c1 := HL0.out.box.c1
  go_region_held3 (fun z => z.cell? ⟨w.heap.size, 0, none⟩ = some (.int .u16 (a : Int)) ∧ z.cell? ⟨w.heap.size, 1, none⟩ = some (.int .u16 (b : Int))) (exact ⟨c0, c1⟩)
    (first
      | (go_at_call 10; refine (unhide M2 _ _ _ (by first | exact .inl ⟨rfl, rfl⟩ | exact .inr ⟨rfl, rfl⟩)).mono ?_; rintro e w0 ⟨rfl, hw0⟩; subst w0))
  clear c0 c1 M2 hwa hwb
  have hxy : x * y ≤ 256 * 256 := Nat.mul_le_mul (by omega) (by omega)
  have hmi : (x : Int) * (y : Int) = ((x * y : Nat) : Int) := by norm_cast
  obtain ⟨s1, hs1⟩ : ∃ s, (x + y) % 2 ^ n = s := ⟨_, rfl⟩
  obtain ⟨s2, hs2⟩ : ∃ s, (x + (2 ^ n - y)) % 2 ^ n = s := ⟨_, rfl⟩
  obtain ⟨s3, hs3⟩ : ∃ s, (2 ^ n - x) % 2 ^ n = s := ⟨_, rfl⟩
  obtain ⟨s4, hs4⟩ : ∃ s, x * y % 2 ^ n = s := ⟨_, rfl⟩
  have AD : Hid (∀ (W : World) v g k, LB w W B M v g k n pa ca pb cb la lb ai c L x y w.heap.size a b f → k ≤ 100000 → Calls Try.prog 12 #[.pointer (some ⟨B, 0, none⟩), .slice (some ⟨pa, 0, none⟩) n ca, .slice (some ⟨pb, 0, none⟩) n cb] W (OP w W B M g k 160 n pa ca pb cb la lb ai c L x y w.heap.size a b f s1)) := fun W v g k h hk => by
    have t := add_lb h hk h1 h16 hx hy
    rwa [hs1] at t
  have SB : Hid (∀ (W : World) v g k, LB w W B M v g k n pa ca pb cb la lb ai c L x y w.heap.size a b f → k ≤ 100000 → Calls Try.prog 13 #[.pointer (some ⟨B, 0, none⟩), .slice (some ⟨pa, 0, none⟩) n ca, .slice (some ⟨pb, 0, none⟩) n cb] W (OP w W B M g k 160 n pa ca pb cb la lb ai c L x y w.heap.size a b f s2)) := fun W v g k h hk => by
    have t := sub_lb h hk h1 h16 hx hy
    rwa [hs2] at t
  have NG : Hid (∀ (W : World) v g k, LB w W B M v g k n pa ca pb cb la lb ai c L x y w.heap.size a b f → k ≤ 100000 → Calls Try.prog 14 #[.pointer (some ⟨B, 0, none⟩), .slice (some ⟨pa, 0, none⟩) n ca] W (OP w W B M g k 160 n pa ca pb cb la lb ai c L x y w.heap.size a b f s3)) := fun W v g k h hk => by
    have t := neg_lb h hk h1 h16 hx
    rwa [hs3] at t
  have ML : Hid (∀ (W : World) v g k, LB w W B M v g k n pa ca pb cb la lb ai c L x y w.heap.size a b f → k ≤ 100000 → Calls Try.prog 15 #[.pointer (some ⟨B, 0, none⟩), .slice (some ⟨pa, 0, none⟩) n ca, .slice (some ⟨pb, 0, none⟩) n cb] W (OP w W B M g k 4000 n pa ca pb cb la lb ai c L x y w.heap.size a b f s4)) := fun W v g k h hk => by
    have t := mul_lb h hk h1 h16 hx hy
    rwa [hs4] at t
  have MM : Hid (∀ (W : World) (z : Int) (r : Nat), (z = (x : Int) + y ∧ r = s1) ∨ (z = (x : Int) - y ∧ r = s2) ∨ (z = -(x : Int) ∧ r = s3) ∨ (z = (x : Int) * y ∧ r = s4) → Calls Try.prog 10 #[.int .i64 z, .int .i64 (n : Int)] W fun e w' => e = .returned (.int .i64 (r : Int)) ∧ w' = W) := by
    rintro W z r (⟨rfl, rfl⟩ | ⟨rfl, rfl⟩ | ⟨rfl, rfl⟩ | ⟨rfl, rfl⟩)
    · exact unhide MD W _ _ (by unfold inI64; omega) (by rw [← hs1]; norm_cast)
    · exact unhide MD W _ _ (by unfold inI64; omega) (by rw [← hs2]; exact sub_mod x y _ hT hy)
    · exact unhide MD W _ _ (by unfold inI64; omega) (by rw [← hs3]; exact neg_mod x _ hT hx)
    · exact unhide MD W _ _ (by rw [hmi]; unfold inI64; omega) (by rw [← hs4]; norm_cast)
  have hw1 : IntKind.i64.wrap ((x : Int) + y) = (x : Int) + y := by rw [IntKind.wrap_i64]; omega
  have hw2 : IntKind.i64.wrap ((x : Int) - y) = (x : Int) - y := by rw [IntKind.wrap_i64]; omega
  have hw3 : IntKind.i64.wrap (-(x : Int)) = -(x : Int) := by rw [IntKind.wrap_i64]; omega
  have hw4 : IntKind.i64.wrap ((x : Int) * y) = (x : Int) * y := by rw [hmi, IntKind.wrap_i64]; omega
  clear MD hmi hxy hs1 hs2 hs3 hs4
  have AX := hide (HL0.out.lw.ax hx)
  have HL0 := HL0.out
  clear hx hy hT hT8
  go_wp2_with (first
      | (go_at_call 16; refine (awake_any _).mono ?_; rintro e w12 ⟨rfl, hb12⟩; have HL12 := HL11.below hb12)
      | (go_at_call 11; refine (is_lb HL10 h1 h16 HW10).mono ?_; rintro e w11 ⟨rfl, HL11, hb11⟩)
      | (go_at_call 15; refine (unhide ML _ _ _ _ HL9 (by omega)).mono ?_; rintro e w10 ⟨q10, v10, g10, l10, rfl, HL10, HW10, HT10⟩)
      | (go_at_call 11; refine (is_lb HL8 h1 h16 HW8).mono ?_; rintro e w9 ⟨rfl, HL9, hb9⟩)
      | (go_at_call 14; refine (unhide NG _ _ _ _ HL7 (by omega)).mono ?_; rintro e w8 ⟨q8, v8, g8, l8, rfl, HL8, HW8, HT8⟩)
      | (go_at_call 11; refine (is_lb HL6 h1 h16 HW6).mono ?_; rintro e w7 ⟨rfl, HL7, hb7⟩)
      | (go_at_call 13; refine (unhide SB _ _ _ _ HL5 (by omega)).mono ?_; rintro e w6 ⟨q6, v6, g6, l6, rfl, HL6, HW6, HT6⟩)
      | (go_at_call 11; refine (is_lb HL4 h1 h16 HW4).mono ?_; rintro e w5 ⟨rfl, HL5, hb5⟩)
      | (go_at_call 12; refine (unhide AD _ _ _ _ HL3 (by omega)).mono ?_; rintro e w4 ⟨q4, v4, g4, l4, rfl, HL4, HW4, HT4⟩)
      | (go_at_call 11; refine (is_lb HL0 h1 h16 AX.out).mono ?_; rintro e w3 ⟨rfl, HL3, hb3⟩)
      | (go_at_call 10; refine (unhide MM _ _ _ (by first | exact .inl ⟨rfl, rfl⟩ | exact .inr (.inl ⟨rfl, rfl⟩) | exact .inr (.inr (.inl ⟨rfl, rfl⟩)) | exact .inr (.inr (.inr ⟨rfl, rfl⟩)))).mono ?_; rintro e w0 ⟨rfl, hw0⟩; subst w0))
  go_ret
  exact ⟨rfl, HL12.bel⟩
end
end Go.Proofs.Ytdjfciigfledhaa
