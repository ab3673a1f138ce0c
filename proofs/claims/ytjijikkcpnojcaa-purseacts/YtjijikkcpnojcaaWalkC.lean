/- A purse as it lies in memory; contracts of what tells of it. -/
import Derived.Test.YtjijikkcpnojcaaWalkB
import Derived.Conc.LoneSelectN
set_option linter.unusedVariables false
set_option linter.unusedSimpArgs false
namespace Go.Proofs.Ytjijikkcpnojcaa
open Go.RowKit Go.Conc

def upd {α : Type} (f : Nat → α) (i : Nat) (v : α) : Nat → α := fun j => if j = i then v else f j
theorem upd_same {α : Type} (f : Nat → α) (i : Nat) (v : α) : upd f i v i = v := by simp [upd]
theorem upd_other {α : Type} {f : Nat → α} {i j : Nat} {v : α} (h : j ≠ i) : upd f i v j = f j := by simp [upd, h]
theorem upd_self {α : Type} (f : Nat → α) (i : Nat) : upd f i (f i) = f := by funext j; unfold upd; split <;> simp [*]

/-- How many there are of the first n kinds. -/
def sumN (f : Nat → Nat) : Nat → Nat
  | 0 => 0
  | n + 1 => sumN f n + f n
theorem sumN_congr {f g : Nat → Nat} : ∀ n, (∀ i, i < n → f i = g i) → sumN f n = sumN g n
  | 0, _ => rfl
  | n + 1, h => by simp only [sumN]; rw [sumN_congr n (fun i hi => h i (by omega)), h n (by omega)]
theorem sumN_le {f g : Nat → Nat} : ∀ n, (∀ i, i < n → f i ≤ g i) → sumN f n ≤ sumN g n
  | 0, _ => Nat.le_refl _
  | n + 1, h => by
    have h1 := sumN_le n (fun i hi => h i (by omega))
    have h2 := h n (by omega)
    simp only [sumN]; omega
theorem sumN_bd {f : Nat → Nat} : ∀ n, (∀ i, i < n → f i ≤ 4096) → sumN f n ≤ n * 4096
  | 0, _ => Nat.le_refl _
  | n + 1, h => by
    have h1 := sumN_bd n (fun i hi => h i (by omega))
    have h2 := h n (by omega)
    simp only [sumN]; omega

/-- The channels of a purse, kind by kind. -/
def Kin (w : World) (K kc N : Nat) (ch : Nat → Nat) : Prop :=
  ∃ cur, w.heap[K]? = some (.cells cur 48 (0, 0)) ∧ cur.size = kc ∧ N ≤ kc ∧ kc ≤ maxLen ∧ ∀ i, i < N → cur[i]? = some (.chan (some (ch i)))
theorem Kin.lt {w : World} {K kc N : Nat} {ch : Nat → Nat} (h : Kin w K kc N ch) : K < w.heap.size := by obtain ⟨cur, h, _⟩ := h; exact lt_of_block h
theorem Kin.cell {w : World} {K kc N : Nat} {ch : Nat → Nat} (h : Kin w K kc N ch) {i : Nat} (hi : i < N) : w.cell? ⟨K, i, none⟩ = some (.chan (some (ch i))) := by
  obtain ⟨cur, h, _, _, _, e⟩ := h
  simp [World.cell?, h, e i hi]
theorem Kin.same {w w' : World} {K kc N : Nat} {ch : Nat → Nat} (h : Kin w K kc N ch) (e : w'.heap[K]? = w.heap[K]?) : Kin w' K kc N ch := by
  obtain ⟨cur, h, r⟩ := h
  exact ⟨cur, e.trans h, r⟩

/-- A purse that New gave as it lies in memory. -/
structure Pu (w : World) (p K kc N : Nat) (ch room left : Nat → Nat) (nx : Nat) : Prop where
  n1 : 1 ≤ N
  n8 : N ≤ 8
  head : w.heap[p]? = some (.cells #[.pointer (some ⟨p, 0, none⟩), .slice (some ⟨K, 0, none⟩) N kc, .int .i64 (sumN room N : Int), .int .i64 (nx : Int)] 43 (0, 0))
  kin : Kin w K kc N ch
  chs : ∀ i, i < N → Ch w (ch i) (room i) (left i)
  inj : ∀ i j, i < N → j < N → ch i = ch j → i = j
  le : ∀ i, i < N → left i ≤ room i
  rm : ∀ i, i < N → room i ≤ 4096
  nxl : nx ≤ N

section
variable {w w' : World} {p K kc N : Nat} {ch room left : Nat → Nat} {nx : Nat}
theorem Pu.c0 (h : Pu w p K kc N ch room left nx) : w.cell? ⟨p, 0, none⟩ = some (.pointer (some ⟨p, 0, none⟩)) := by simp [World.cell?, h.head]
theorem Pu.c1 (h : Pu w p K kc N ch room left nx) : w.cell? ⟨p, 1, none⟩ = some (.slice (some ⟨K, 0, none⟩) N kc) := by simp [World.cell?, h.head]
theorem Pu.c2 (h : Pu w p K kc N ch room left nx) : w.cell? ⟨p, 2, none⟩ = some (.int .i64 (sumN room N : Int)) := by simp [World.cell?, h.head]
theorem Pu.c3 (h : Pu w p K kc N ch room left nx) : w.cell? ⟨p, 3, none⟩ = some (.int .i64 (nx : Int)) := by simp [World.cell?, h.head]
theorem Pu.fz (h : Pu w p K kc N ch room left nx) (i : Nat) : w.frozen? ⟨p, i, none⟩ = false := by simp [World.frozen?, h.head]
theorem Pu.lt (h : Pu w p K kc N ch room left nx) : p < w.heap.size := lt_of_block h.head
theorem ne_chan {w : World} {q c cap n : Nat} {x : Array Value} {t : TypeId} (h : w.heap[q]? = some (.cells x t (0, 0))) (hc : Ch w c cap n) : q ≠ c := by
  intro e
  subst e
  obtain ⟨_, _, _, hc, _⟩ := hc
  rw [h] at hc
  cases hc
theorem Pu.ne (h : Pu w p K kc N ch room left nx) {i : Nat} (hi : i < N) : p ≠ ch i := ne_chan h.head (h.chs i hi)
theorem Pu.neK (h : Pu w p K kc N ch room left nx) {i : Nat} (hi : i < N) : K ≠ ch i := by obtain ⟨_, hk, _⟩ := h.kin; exact ne_chan hk (h.chs i hi)
theorem Pu.pK (h : Pu w p K kc N ch room left nx) : p ≠ K := by
  intro e
  obtain ⟨_, hk, _⟩ := h.kin
  rw [← e, h.head] at hk
  injection hk with hk
  injection hk with _ ht
  exact absurd ht (by decide)
theorem Pu.same (h : Pu w p K kc N ch room left nx) (e1 : w'.heap[p]? = w.heap[p]?) (e2 : w'.heap[K]? = w.heap[K]?) (e3 : ∀ i, i < N → w'.heap[ch i]? = w.heap[ch i]?) : Pu w' p K kc N ch room left nx :=
  ⟨h.n1, h.n8, e1.trans h.head, h.kin.same e2, fun i hi => (h.chs i hi).same (e3 i hi), h.inj, h.le, h.rm, h.nxl⟩
theorem Pu.drewN (h : Pu w p K kc N ch room left nx) (m : Nat) : Pu (w.drewN m) p K kc N ch room left nx := h.same rfl rfl (fun _ _ => rfl)
theorem Pu.below (h : Pu w p K kc N ch room left nx) (hb : Below w.heap.size w w') : Pu w' p K kc N ch room left nx :=
  h.same (hb.block _ h.lt) (hb.block _ h.kin.lt) (fun i hi => hb.block _ (h.chs i hi).lt)
/-- Tokens of one kind turned. -/
theorem Pu.turn (h : Pu w p K kc N ch room left nx) {k n : Nat} (hk : k < N) (hc : Ch w' (ch k) (room k) n) (hn : n ≤ room k) (kp : Kp (fun b => b = ch k) w w') : Pu w' p K kc N ch room (upd left k n) nx := by
  refine ⟨h.n1, h.n8, (kp.block _ h.lt (h.ne hk)).trans h.head, h.kin.same (kp.block _ h.kin.lt (h.neK hk)), fun i hi => ?_, h.inj, fun i hi => ?_, h.rm, h.nxl⟩
  · by_cases e : i = k
    · subst e; rw [upd_same]; exact hc
    · rw [upd_other e]; exact (h.chs i hi).same (kp.block _ (h.chs i hi).lt (fun e2 => e (h.inj i k hi hk e2)))
  · by_cases e : i = k
    · subst e; rw [upd_same]; exact hn
    · rw [upd_other e]; exact h.le i hi
/-- The next kind is set. -/
theorem Pu.setNext (h : Pu w p K kc N ch room left nx) (m : Nat) (hm : m ≤ N) : Pu (w.setCell ⟨p, 3, none⟩ (.int .i64 (m : Int))) p K kc N ch room left m :=
  ⟨h.n1, h.n8, (hd_set h.head).trans (by simp), h.kin.same (hd_far (Ne.symm h.pK)), fun i hi => (h.chs i hi).same (hd_far (Ne.symm (h.ne hi))), h.inj, h.le, h.rm, hm⟩
end

/-- The blocks of a purse that calls turn. -/
def Of (p N : Nat) (ch : Nat → Nat) (b : Nat) : Prop := b = p ∨ ∃ i, i < N ∧ b = ch i

theorem Try.info43 : (Try.prog.info? 43).map (·.size) = some 4 := by kernel_rfl

set_option maxHeartbeats 400000 in
theorem given_any (w : World) (p K kc N : Nat) (ch room left : Nat → Nat) (nx : Nat) (hA : Pu w p K kc N ch room left nx) :
    Calls Try.prog 21 #[.pointer (some ⟨p, 0, none⟩)] w fun e w' => e = .returned (.bool true) ∧ w' = w := by
  have c0 := hA.c0
  clear hA
  obtain ⟨j, hj, _⟩ := Option.map_eq_some_iff.1 Try.info43
  have heq := run_eql_ptr_same (P := Try.prog) w ⟨p, 0, none⟩ Try.underlying25 hj
  go_enter Try.func21, Try.ntmps21
  go_wp2
  all_goals
    go_ret
    exact ⟨ret_bool (by simp), rfl⟩

/-- Whether a number is a kind. -/
def kinB (N : Nat) (k : Int) : Bool := decide (0 ≤ k) && decide (k < N)
theorem kinB_yes {N : Nat} {k : Int} (h : kinB N k = true) : ∃ m : Nat, k = (m : Int) ∧ m < N := by
  simp [kinB] at h
  exact ⟨k.toNat, by omega, by omega⟩
theorem kinB_of {N m : Nat} (h : m < N) : kinB N (m : Int) = true := by simp [kinB]; omega

set_option maxHeartbeats 400000 in
theorem isKind_any (w : World) (p K kc N : Nat) (ch room left : Nat → Nat) (nx : Nat) (k : Int) (hA : Pu w p K kc N ch room left nx) :
    Calls Try.prog 22 #[.pointer (some ⟨p, 0, none⟩), .int .i64 k] w fun e w' => e = .returned (.bool (kinB N k)) ∧ w' = w := by
  have G := hide (given_any w p K kc N ch room left nx hA)
  have c1 := hA.c1
  have hn := hA.n8
  clear hA
  go_enter Try.func22, Try.ntmps22
  go_wp2_with (first | (go_at_call 21; refine (unhide G).mono ?_; rintro e w0 ⟨rfl, hw0⟩; subst w0))
  all_goals
    go_ret
    exact ⟨ret_bool (by simp [kinB, *]; try omega), rfl⟩

theorem len_chan {w : World} {c cap n : Nat} (h : Ch w c cap n) (ty : TypeId) : (Builtin.len_ #[48] ty #[.chan (some c)]).run Try.prog w = .ok (goInt n) w := by
  obtain ⟨buf, s, r, hc, rfl⟩ := h
  exact run_len_chan 48 ty Try.underlying48 hc

set_option maxHeartbeats 400000 in
theorem left_no (w : World) (p K kc N : Nat) (ch room left : Nat → Nat) (nx : Nat) (k : Int) (hA : Pu w p K kc N ch room left nx) (hk : kinB N k = false) :
    Calls Try.prog 12 #[.pointer (some ⟨p, 0, none⟩), .int .i64 k] w fun e w' => e = .returned (.int .i64 0) ∧ w' = w := by
  have G := isKind_any w p K kc N ch room left nx k hA
  rw [hk] at G
  have G := hide G
  clear hA
  go_enter Try.func12, Try.ntmps12
  go_wp2_with (first | (go_at_call 22; refine (unhide G).mono ?_; rintro e w0 ⟨rfl, hw0⟩; subst w0))
  all_goals
    go_ret
    exact ⟨rfl, rfl⟩

set_option maxHeartbeats 400000 in
theorem left_yes (w : World) (p K kc N : Nat) (ch room left : Nat → Nat) (nx k : Nat) (hA : Pu w p K kc N ch room left nx) (hk : k < N) :
    Calls Try.prog 12 #[.pointer (some ⟨p, 0, none⟩), .int .i64 (k : Int)] w fun e w' => e = .returned (.int .i64 (left k : Int)) ∧ w' = w := by
  have G := isKind_any w p K kc N ch room left nx k hA
  rw [kinB_of hk] at G
  have G := hide G
  have c1 := hA.c1
  have ek := hA.kin.cell hk
  have hl := len_chan (hA.chs k hk)
  have h1 := hA.le k hk
  have h2 := hA.rm k hk
  have hn := hA.n8
  clear hA
  go_enter Try.func12, Try.ntmps12
  go_wp2_with (first | (go_at_call 22; refine (unhide G).mono ?_; rintro e w0 ⟨rfl, hw0⟩; subst w0))
  all_goals
    go_ret
    exact ⟨rfl, rfl⟩

set_option maxHeartbeats 1000000 in
theorem spent_any (w : World) (p K kc N : Nat) (ch room left : Nat → Nat) (nx : Nat) (hA : Pu w p K kc N ch room left nx) :
    Calls Try.prog 15 #[.pointer (some ⟨p, 0, none⟩)] w fun e w' => e = .returned (.int .i64 ((sumN room N - sumN left N : Nat) : Int)) ∧ w' = w := by
  have G := hide (given_any w p K kc N ch room left nx hA)
  have c1 := hA.c1
  have c2 := hA.c2
  have hs := sumN_bd N hA.rm
  have hn := hA.n8
  have HA := hide hA
  clear hA
  obtain ⟨F, hF⟩ : ∃ F, F = sumN room N := ⟨_, rfl⟩
  rw [← hF] at c2 hs ⊢
  have HF := hide hF
  clear hF
  go_enter Try.func15, Try.ntmps15
  go_wp2_with (first | (go_at_call 21; refine (unhide G).mono ?_; rintro e w0 ⟨rfl, hw0⟩; subst w0))
  go_loop [3, 18] (fun x i => ∃ k : Nat, k ≤ N ∧ i = .int .i64 (k : Int) ∧ sumN left k ≤ F ∧ x = .int .i64 ((F - sumN left k : Nat) : Int)) (fun _ i => N - (intOf i).toNat)
  case atStart => exact ⟨0, Nat.zero_le _, rfl, Nat.zero_le _, by simp [sumN]⟩
  case round =>
    obtain ⟨k, hk, rfl, hle, rfl⟩ := hrel
    by_cases hlt : k < N
    · have ek := HA.out.kin.cell hlt
      have hl := len_chan (HA.out.chs k hlt)
      have h1 := HA.out.le k hlt
      have h2 := HA.out.rm k hlt
      have hnext : Hid (sumN left (k + 1) = sumN left k + left k) := rfl
      have hle2 : Hid (sumN left k + left k ≤ F) := by
        have a1 := sumN_le (k + 1) (f := left) (g := room) (fun i hi => HA.out.le i (by omega))
        have a2 : sumN room (k + 1) ≤ sumN room N := by
          clear a1 hnext hl ek h1 h2 hle HA G c1 c2
          have : ∀ d, sumN room (k + 1) ≤ sumN room (k + 1 + d) := fun d => by
            induction d with
            | zero => exact Nat.le_refl _
            | succ d ih => exact Nat.le_trans ih (by show _ ≤ sumN room (k + 1 + d) + room (k + 1 + d); omega)
          have e : N = k + 1 + (N - (k + 1)) := by omega
          rw [e]; exact this _
        have := HF.out
        have a3 : sumN left (k + 1) = sumN left k + left k := rfl
        show _ ≤ _
        omega
      have hle3 := hle2.out
      generalize sumN left k = S at *
      generalize left k = L at *
      obtain ⟨D, hD⟩ : ∃ D : Nat, D = F - S := ⟨_, rfl⟩
      rw [← hD]
      have hD1 : L ≤ D := by omega
      have hD2 : D ≤ 40000 := by omega
      have HD := hide hD
      clear hle hle3 hD
      go_wp2
      go_round
      case rel =>
        have hd := HD.out
        have e : (D : Int) - (L : Int) = ((F - (S + L) : Nat) : Int) := by omega
        exact ⟨k + 1, by omega, by go_num, by rw [hnext.out]; exact hle2.out, by rw [hnext.out]; exact congrArg (Value.int .i64) e⟩
      case measure => simp [intOf]; omega
    · have hkN : k = N := by omega
      have HK := hide hkN
      clear hkN
      go_wp2
      go_ret
      exact ⟨ret_int (by rw [HK.out]), rfl⟩
end Go.Proofs.Ytjijikkcpnojcaa
