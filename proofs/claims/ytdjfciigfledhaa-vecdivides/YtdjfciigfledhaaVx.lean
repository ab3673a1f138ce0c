/- The law of division. -/
import Derived.Test.YtdjfciigfledhaaVv
set_option linter.unusedVariables false
set_option linter.unusedSimpArgs false
namespace Go.Proofs.Ytdjfciigfledhaa
open Go.RowKit Go.Maps

theorem div_again (x y T : Nat) (hx : x < T) (hy : y < T) : ((if y = 0 then T - 1 else x / y) * y % T + x % y) % T = x := by
  by_cases h : y = 0
  · subst h
    simp [Nat.mod_eq_of_lt hx]
  · rw [if_neg h]
    have h1 := Nat.div_mul_le_self x y
    have h2 := Nat.div_add_mod' x y
    rw [Nat.mod_eq_of_lt (by omega : x / y * y < T), h2, Nat.mod_eq_of_lt hx]

section
variable (w : World)
set_option maxHeartbeats 8000000 in
set_option maxRecDepth 100000 in
theorem divides_any (a b f u : Nat) (ha : a ≤ 65535) (hb : b ≤ 65535) (hf : f ≤ 4294967295) (hu : u ≤ 255) :
    Calls Try.prog 4 #[.agg #[.int .u16 (a : Int), .int .u16 (b : Int), .int .u32 (f : Int)], .int .u8 (u : Int)] w fun e w' => e = .returned (.bool true) ∧ Below w.heap.size w w' := by
  obtain ⟨n, hn⟩ : ∃ n, 1 + u % 8 = n := ⟨_, rfl⟩
  have h1 : 1 ≤ n := by omega
  have h8 : n ≤ 8 := by omega
  have hwa : IntKind.i64.wrap (a : Int) = (a : Int) := by rw [IntKind.wrap_i64]; omega
  have hwb : IntKind.i64.wrap (b : Int) = (b : Int) := by rw [IntKind.wrap_i64]; omega
  go_enter Try.func4, Try.ntmps4
  go_upto_region 2 with fail
  rw [show (1 + (u : Int) % 8) = (n : Int) by omega]
  have WS := hide (words_any (w.alloc (.cells #[.int .u16 (a : Int), .int .u16 (b : Int), .int .u32 (f : Int)] 25)) a b f n ha hb hf h1 (by omega))
  have HBX : Hid (Box (w.alloc (.cells #[.int .u16 (a : Int), .int .u16 (b : Int), .int .u32 (f : Int)] 25)) w.heap.size a b f) := heap_alloc_new _ _
  have HBW := hide (below_alloc w (.cells #[.int .u16 (a : Int), .int .u16 (b : Int), .int .u32 (f : Int)] 25))
  clear hn hu
  go_upto_region 3 with (first
    | (go_at_call 9; refine (unhide WS).mono ?_; rintro e w2 ⟨B, M, v, g, pa, ca, pb, cb, la, lb, ai, c, L, rfl, hL, hcnt, hb2, hlo⟩))
  have HBOX := HBX.out.below hb2
  have hsz : (w.alloc (.cells #[.int .u16 (a : Int), .int .u16 (b : Int), .int .u32 (f : Int)] 25)).heap.size = w.heap.size + 1 := by simp
  have HB2 : Below w.heap.size w w2 := HBW.out.trans (hb2.mono (by rw [hsz]; exact Nat.le_succ _))
  rw [hsz] at hlo
  have HL0 := hide (law_start hL HBOX HB2 hlo)
  have HCNT := hide hcnt
  clear hL hb2 hsz hlo hcnt WS HBX HBW HBOX HB2
  have hT := Nat.two_pow_pos n
  have hT8 : 2 ^ n ≤ 256 := Nat.le_trans (Nat.pow_le_pow_right (by omega) h8) (by decide)
  have hx : a % 2 ^ n < 2 ^ n := Nat.mod_lt _ hT
  have hy : b % 2 ^ n < 2 ^ n := Nat.mod_lt _ hT
  have h16 : n ≤ 16 := by omega
  have MD : Hid (∀ (W : World) (z : Int) (r : Nat), inI64 z → z % ((2 ^ n : Nat) : Int) = (r : Int) → Calls Try.prog 10 #[.int .i64 z, .int .i64 (n : Int)] W fun e w' => e = .returned (.int .i64 (r : Int)) ∧ w' = W) := fun W z r hz hr => by
    have h := mod_any W z hz n (by omega)
    rwa [hr] at h
  have M2 : Hid (∀ (W : World) (z : Int) (r : Nat), (z = (a : Int) ∧ r = a % 2 ^ n) ∨ (z = (b : Int) ∧ r = b % 2 ^ n) → Calls Try.prog 10 #[.int .i64 z, .int .i64 (n : Int)] W fun e w' => e = .returned (.int .i64 (r : Int)) ∧ w' = W) := by
    rintro W z r (⟨rfl, rfl⟩ | ⟨rfl, rfl⟩)
    · exact unhide MD W _ _ (by unfold inI64; omega) (by norm_cast)
    · exact unhide MD W _ _ (by unfold inI64; omega) (by norm_cast)
  generalize a % 2 ^ n = x at *
  generalize b % 2 ^ n = y at *
  have c0 := HL0.out.box.c0
  have c1 := HL0.out.box.c1
  go_region_held3 (fun z => z.cell? ⟨w.heap.size, 0, none⟩ = some (.int .u16 (a : Int)) ∧ z.cell? ⟨w.heap.size, 1, none⟩ = some (.int .u16 (b : Int))) (exact ⟨c0, c1⟩)
    (first
      | (go_at_call 10; refine (unhide M2 _ _ _ (by first | exact .inl ⟨rfl, rfl⟩ | exact .inr ⟨rfl, rfl⟩)).mono ?_; rintro e w0 ⟨rfl, hw0⟩; subst w0))
  clear c0 c1 M2 hwa hwb
  have hag := div_again x y (2 ^ n) hx hy
  have RD := hide (fun W => refDiv_any W x y n (by omega) (by omega) (by omega))
  have RR := hide (fun W => refRest_any W x y (by omega) (by omega))
  have DV : Hid (∀ (W : World) v g k, LB w W B M v g k n pa ca pb cb la lb ai c L x y w.heap.size a b f → k ≤ 100000 → Calls Try.prog 17 #[.pointer (some ⟨B, 0, none⟩), .slice (some ⟨pa, 0, none⟩) n ca, .slice (some ⟨pb, 0, none⟩) n cb] W fun e w' => ∃ q r ql rl v' g', e = .returned (.tuple #[.slice (some ⟨q, 0, none⟩) n n, .slice (some ⟨r, 0, none⟩) n n]) ∧ LB w w' B M v' g' (k + 5000) n pa ca pb cb la lb ai c L x y w.heap.size a b f ∧
      Wn w' g' q n n ql L (if y = 0 then 2 ^ n - 1 else x / y) ∧ Wn w' g' r n n rl L (x % y)) := fun W v g k h hk => divW h hk h1 h16 (h.lw.ax hx) (h.lw.bx hy)
  generalize (if y = 0 then 2 ^ n - 1 else x / y) = sq at *
  generalize x % y = sr at *
  obtain ⟨sm, hsm⟩ : ∃ s, sq * y % 2 ^ n = s := ⟨_, rfl⟩
  rw [hsm] at hag
  have ML : Hid (∀ (W : World) v g k q l, LB w W B M v g k n pa ca pb cb la lb ai c L x y w.heap.size a b f → k ≤ 100000 → Wn W g q n n l L sq → Calls Try.prog 15 #[.pointer (some ⟨B, 0, none⟩), .slice (some ⟨q, 0, none⟩) n n, .slice (some ⟨pb, 0, none⟩) n cb] W (OP w W B M g k 4000 n pa ca pb cb la lb ai c L x y w.heap.size a b f sm)) := fun W v g k q l h hk u => by
    have t := mulW h hk h1 h16 u (h.lw.bx hy)
    rwa [hsm] at t
  have AD : Hid (∀ (W : World) v g k q l q2 l2, LB w W B M v g k n pa ca pb cb la lb ai c L x y w.heap.size a b f → k ≤ 100000 → Wn W g q n n l L sm → Wn W g q2 n n l2 L sr → Calls Try.prog 12 #[.pointer (some ⟨B, 0, none⟩), .slice (some ⟨q, 0, none⟩) n n, .slice (some ⟨q2, 0, none⟩) n n] W (OP w W B M g k 160 n pa ca pb cb la lb ai c L x y w.heap.size a b f x)) := fun W v g k q l q2 l2 h hk u u2 => by
    have t := addW h hk h1 h16 u u2
    rwa [hag] at t
  have HL0 := HL0.out
  clear hx hy hT hT8 hsm hag MD
  go_wp2_with (first
      | (go_at_call 16; refine (awake_any _).mono ?_; rintro e w12 ⟨rfl, hb12⟩; have HL12 := HL8.below hb12)
      | (go_at_call 11; refine (is_lb HL7 h1 h16 (HW5.below (hb6.trans (hb7.mono hb6.size)))).mono ?_; rintro e w8 ⟨rfl, HL8, hb8⟩)
      | (go_at_call 11; refine (is_lb HL6 h1 h16 (HR5.below hb6)).mono ?_; rintro e w7 ⟨rfl, HL7, hb7⟩)
      | (go_at_call 11; refine (is_lb HL5 h1 h16 HQ5).mono ?_; rintro e w6 ⟨rfl, HL6, hb6⟩)
      | (go_at_call 18; refine (unhide RD _).mono ?_; rintro e w0 ⟨rfl, hw0⟩; subst w0)
      | (go_at_call 19; refine (unhide RR _).mono ?_; rintro e w0 ⟨rfl, hw0⟩; subst w0)
      | (go_at_call 12; refine (unhide AD _ _ _ _ _ _ _ _ HL4 (by omega) HW4 HR4).mono ?_; rintro e w5 ⟨q5, v5, g5, l5, rfl, HL5, HW5, HT5⟩; have HQ5 := HT5 HQ4; have HR5 := HT5 HR4)
      | (go_at_call 15; refine (unhide ML _ _ _ _ _ _ HL3 (by omega) HQ3).mono ?_; rintro e w4 ⟨q4, v4, g4, l4, rfl, HL4, HW4, HT4⟩; have HQ4 := HT4 HQ3; have HR4 := HT4 HR3)
      | (go_at_call 17; refine (unhide DV _ _ _ _ HL0 (by omega)).mono ?_; rintro e w3 ⟨q3, r3, ql3, rl3, v3, g3, rfl, HL3, HQ3, HR3⟩))
  go_ret
  exact ⟨rfl, HL12.bel⟩
end
end Go.Proofs.Ytdjfciigfledhaa
