/- Contracts: where a number stands in what was read; whether it is false; its level. -/
import Derived.Test.YtaepanmkofhgoaaWalkF
import Derived.Test.YtaepanmkofhgoaaPlainL
set_option linter.unusedVariables false
set_option linter.unusedSimpArgs false
namespace Go.Proofs.Ytaepanmkofhgoaa
open Go.RowKit

/-- A quiet contract, for a walk that draws. -/
theorem quietD {P : Program} {f : FuncId} {args : Array Value} {w : World} {n k : Nat} {v : Value}
    (h : Calls P f args (w.drewN (n + k)) fun e w' => e = .returned v ∧ ∃ m, w' = (w.drewN (n + k)).drewN m) : Calls P f args (w.drewN (n + k)) fun e w'' => e = .returned v ∧ ∃ m, w'' = w.drewN (n + m) :=
  h.mono fun _ _ ⟨he, m, hm⟩ => ⟨he, k + m, by rw [hm, World.drewN_drewN, Nat.add_assoc]⟩
theorem quietE {P : Program} {f : FuncId} {args : Array Value} {w : World} {n : Nat} {v : Value}
    (h : Calls P f args (w.drewN n) fun e w' => e = .returned v ∧ ∃ m, w' = (w.drewN n).drewN m) : Calls P f args (w.drewN n) fun e w'' => e = .returned v ∧ ∃ m, w'' = w.drewN m :=
  h.mono fun _ _ ⟨he, m, hm⟩ => ⟨he, n + m, by rw [hm, World.drewN_drewN]⟩
theorem quietS {P : Program} {f : FuncId} {args : Array Value} {w : World} {n : Nat} {v : Value}
    (h : Calls P f args (w.drewN n) fun e w' => e = .returned v ∧ w' = w.drewN n) : Calls P f args (w.drewN n) fun e w'' => e = .returned v ∧ ∃ m, w'' = w.drewN m :=
  h.mono fun _ _ ⟨he, hm⟩ => ⟨he, n, hm⟩

theorem slot_at (w : World) (pb : Nat) (ts : List As) (k : Nat) (x : PP) (v : Int) (h : Pth w pb ts k x) (r : Nat) (hr : End ts x.wd x.s v r) :
    Calls Try.prog 47 #[.pointer (some ⟨pb, 0, none⟩), .int .i64 v] w fun e w' => e = .returned (.int .i64 r) ∧ ∃ n, w' = w.drewN n :=
  (slot_any w pb ts k x v h).mono fun _ _ ⟨r', he, hE, hw⟩ => ⟨by rw [he, hr.one hE], hw⟩

set_option maxHeartbeats 2000000 in
/-- Where a number's variable stands in what was read. -/
theorem place_any (w : World) (pb : Nat) (ts : List As) (k : Nat) (x : PP) (l : Int) (h : Pth w pb ts k x) :
    Calls Try.prog 39 #[.pointer (some ⟨pb, 0, none⟩), .int .i64 l] w fun e w' => e = .returned (.int .i64 (atI (ts.take k) (varW l))) ∧ ∃ n, w' = w.drewN n := by
  obtain ⟨r, hr⟩ := h.tab.end_ex (varW l)
  have HP := hide (h.tab.place (h.ok.dst h.tab.kl) hr)
  have CV := hide (fun w => variable_all l w)
  have CS := hide (fun n => slot_at (w.drewN n) pb ts k x (varW l) (h.drewN n) r hr)
  have hc := h.cs r hr.lt
  have hent := h.tab.ent r hr.lt
  have hp := h.hp
  have hq := h.hq
  have c1 := h.c1
  have h64 := pow6 h.tab.wd6
  have hrl := hr.lt
  have hk := h.tab.kl
  have h20 := h.n20
  obtain ⟨a, cap, qb, wd, s⟩ := x
  dsimp only at *
  clear h hr
  generalize atI (ts.take k) (varW l) = q at *
  generalize varW l = vv at *
  generalize s r = y at *
  have hy : 0 ≤ y := by omega
  have hy2 : y ≤ 20 := by omega
  clear hent
  generalize 2 ^ wd = M at *
  go_enter Try.func39, Try.ntmps39
  go_wp2
  go_quiet ((first | (go_at_call 48; exact quietS (unhide CV _)) | (go_at_call 47; exact quietE (unhide CS _))))
  go_wp2
  go_ret
  exact ⟨ret_int HP.out, _, rfl⟩

theorem fal_none {T : List As} {l : Int} (hd : Dst T) (hv : Vl T) (h : atI T (varW l) = -1) : falB T l = false := by
  cases e : falB T l with
  | false => rfl
  | true =>
    have hl := litB_true.1 (fal_lit hv e)
    rw [varW_lit hl.2.1 hl.2.2] at h
    obtain ⟨j, _, _, ha⟩ := fal_at hd e
    omega

theorem fal_some {T : List As} {l : Int} {j : Nat} (hd : Dst T) (hv : Vl T) (hf : -9223372036854775808 ≤ l ∧ l ≤ 9223372036854775807) (hj : j < T.length) (h : atI T (varW l) = j) : falB T l = ((nth T j).lit == wrap64 (-l)) := by
  rw [Bool.eq_iff_iff]
  constructor
  · intro e
    have hl := litB_true.1 (fal_lit hv e)
    rw [varW_lit hl.2.1 hl.2.2] at h
    obtain ⟨i, _, e2, ha⟩ := fal_at hd e
    have : i = j := by omega
    subst this
    rw [e2, IntWalk.wrap64_in _ (by omega)]
    simp
  · intro e
    have e' : (nth T j).lit = wrap64 (-l) := by simpa using e
    have hl := litB_true.1 (hv j hj)
    refine falB_iff.2 ⟨j, hj, ?_⟩
    by_cases hm : l = -9223372036854775808
    · subst hm
      have : wrap64 (- -9223372036854775808) = -9223372036854775808 := by decide +kernel
      omega
    · rw [e', IntWalk.wrap64_in _ (by omega)]

set_option maxHeartbeats 2000000 in
/-- Is a number's negation in what was read? -/
theorem isFalse_any (w : World) (pb : Nat) (ts : List As) (k : Nat) (x : PP) (l : Int) (h : Pth w pb ts k x) (hf : -9223372036854775808 ≤ l ∧ l ≤ 9223372036854775807) :
    Calls Try.prog 56 #[.pointer (some ⟨pb, 0, none⟩), .int .i64 l] w fun e w' => e = .returned (.bool (falB (ts.take k) l)) ∧ ∃ n, w' = w.drewN n := by
  have CP := hide (place_any w pb ts k x l h)
  have hd := h.ok.dst h.tab.kl
  have hv := h.ok.vl
  have hk := h.tab.kl
  have h20 := h.n20
  have c0 := h.c0
  have hp := h.hp
  have hlk := len_take hk
  obtain ⟨a, cap, qb, wd, s⟩ := x
  dsimp only at *
  rcases atI_cases (ts.take k) (varW l) with ⟨ha, _⟩ | ⟨j, hj, ha, _⟩
  · have HR := hide (fal_none hd hv ha)
    rw [ha] at CP
    clear h c0 hd hv
    generalize falB (ts.take k) l = R at *
    have HR' : R = false := HR.out
    subst HR'
    go_enter Try.func56, Try.ntmps56
    go_wp2_with (go_at_call 39; refine (unhide CP).mono ?_; rintro e w1 ⟨rfl, n, rfl⟩)
    go_ret
    exact ⟨rfl, n, rfl⟩
  · have HR := hide (fal_some hd hv hf hj ha)
    rw [hlk] at hj
    rw [nth_take hj] at HR
    rw [ha] at CP
    obtain ⟨b, off, rfl, hA⟩ := h.tr j (by omega)
    have hA0 := hA.c0
    have hlen : (j : Int) < ts.length := by omega
    clear h hd hv ha hA
    generalize falB (ts.take k) l = R at *
    generalize (nth ts j).lit = lt at *
    go_enter Try.func56, Try.ntmps56
    go_wp2_with (go_at_call 39; refine (unhide CP).mono ?_; rintro e w1 ⟨rfl, n, rfl⟩)
    go_ret
    exact ⟨ret_bool HR.out.symm, n, rfl⟩

set_option maxHeartbeats 2000000 in
/-- Is each number's negation in what was read? -/
theorem areFalse_any (w : World) (pb : Nat) (ts : List As) (k : Nat) (x : PP) (a : Option Addr) (cap : Nat) (xs : List Int) (h : Pth w pb ts k x) (hr : Row w a xs) (hl : xs.length ≤ maxLen) (hf : Fit xs) :
    Calls Try.prog 36 #[.pointer (some ⟨pb, 0, none⟩), .slice a xs.length cap] w fun e w' => e = .returned (.bool (xs.all (fun l => falB (ts.take k) l))) ∧ ∃ n, w' = w.drewN n := by
  have CF := hide (fun n l hl => isFalse_any (w.drewN n) pb ts k x l (h.drewN n) hl)
  unfold maxLen at hl
  clear h
  go_enter Try.func36, Try.ntmps36
  go_wp2
  go_loopw [9] (fun i wr => ∃ q n : Nat, q ≤ xs.length ∧ i = .int .i64 q ∧ (xs.take q).all (fun l => falB (ts.take k) l) = true ∧ wr = w.drewN n) (fun i _ => xs.length - (intOf i).toNat)
  case atStart => exact ⟨0, 0, Nat.zero_le _, rfl, rfl, rfl⟩
  case round =>
    obtain ⟨q, n, hq, rfl, hno, rfl⟩ := hrel
    have HN := hide hno
    clear hno
    by_cases hlt : q < xs.length
    · obtain ⟨b, off, rfl, hb, hc⟩ := hr q hlt
      have C := (unhide CF) n xs[q] (hf _ (List.getElem_mem hlt))
      clear hr CF
      by_cases he : falB (ts.take k) xs[q] = true
      · rw [he] at C
        replace C := hide C
        go_wp2_with (go_at_call 56; refine (unhide C).mono ?_; rintro e w1 ⟨rfl, m, rfl⟩)
        go_roundw
        case rel => exact ⟨q + 1, n + m, by omega, by go_num, all_take_snoc _ xs q hlt HN.out he, rfl⟩
        case measure => simp [intOf]; omega
      · have he' : falB (ts.take k) xs[q] = false := by simpa using he
        rw [he'] at C
        replace C := hide C
        clear he
        go_wp2_with (go_at_call 56; refine (unhide C).mono ?_; rintro e w1 ⟨rfl, m, rfl⟩)
        go_ret
        exact ⟨ret_bool (all_false_at _ xs q hlt he').symm, n + m, rfl⟩
    · have hz : xs.length ≤ q := by omega
      clear hr CF
      go_wp2
      go_ret
      exact ⟨ret_bool (all_of_take hz HN.out).symm, n, rfl⟩

set_option maxHeartbeats 2000000 in
/-- The level of what is false. -/
theorem level_any (w : World) (pb : Nat) (ts : List As) (x : PP) (l : Int) (h : Pth w pb ts ts.length x) (hf : falB ts l = true) :
    Calls Try.prog 42 #[.pointer (some ⟨pb, 0, none⟩), .int .i64 l] w fun e w' => e = .returned (.int .i64 (levI ts l)) ∧ ∃ n, w' = w.drewN n := by
  have T := Tr.of h.ok
  have hl := litB_true.1 (fal_lit T.vl hf)
  have CP := fun n => place_any (w.drewN n) pb ts ts.length x l (h.drewN n)
  rw [List.take_length, varW_lit hl.2.1 hl.2.2, (T.fal hf).2.2] at CP
  replace CP := hide CP
  have h20 := h.n20
  have c0 := h.c0
  have hp := h.hp
  have hj := (T.fal hf).1
  unfold levI
  generalize pl ts l = j at *
  obtain ⟨a, cap, qb, wd, s⟩ := x
  dsimp only at *
  obtain ⟨b, off, rfl, hA⟩ := h.tr j (by omega)
  have hA1 := hA.c1
  have hlen : (j : Int) < ts.length := by omega
  clear h hA T hl
  generalize (nth ts j).lev = lv at *
  go_enter Try.func42, Try.ntmps42
  go_wp2
  go_quiet ((go_at_call 39; exact quietE (unhide CP _)))
  go_wp2
  go_ret
  exact ⟨rfl, _, rfl⟩

set_option maxHeartbeats 2000000 in
theorem greatest_any (w : World) (pb : Nat) (ts : List As) (x : PP) (a : Option Addr) (cap : Nat) (xs : List Int) (h : Pth w pb ts ts.length x) (hr : Row w a xs) (hl : xs.length ≤ maxLen) (hf : ∀ l ∈ xs, falB ts l = true) :
    Calls Try.prog 41 #[.pointer (some ⟨pb, 0, none⟩), .slice a xs.length cap] w fun e w' => e = .returned (.int .i64 (grt ts xs)) ∧ ∃ n, w' = w.drewN n := by
  have CL := hide (fun n l hl => level_any (w.drewN n) pb ts x l (h.drewN n) hl)
  unfold maxLen at hl
  clear h
  go_enter Try.func41, Try.ntmps41
  go_wp2
  go_loopw [5, 10] (fun m i wr => ∃ q n : Nat, q ≤ xs.length ∧ i = .int .i64 q ∧ m = .int .i64 (grt ts (xs.take q)) ∧ wr = w.drewN n) (fun _ i _ => xs.length - (intOf i).toNat)
  case atStart => exact ⟨0, 0, Nat.zero_le _, rfl, rfl, rfl⟩
  case round =>
    obtain ⟨q, n, hq, rfl, rfl, rfl⟩ := hrel
    by_cases hlt : q < xs.length
    · obtain ⟨b, off, rfl, hb, hc⟩ := hr q hlt
      have C := hide ((unhide CL) n xs[q] (hf _ (List.getElem_mem hlt)))
      have HS := hide (grt_take (ts := ts) hlt)
      clear hr CL
      generalize grt ts (xs.take q) = g at *
      generalize levI ts xs[q] = lv at *
      go_wp2_with (go_at_call 42; refine (unhide C).mono ?_; rintro e w1 ⟨rfl, m, rfl⟩)
      all_goals
        go_roundw
        case rel => exact ⟨q + 1, n + m, by omega, by go_num, by rw [HS.out]; go_num, rfl⟩
        case measure => simp [intOf]; omega
    · clear hr CL
      go_wp2
      go_ret
      exact ⟨ret_int (by rw [List.take_of_length_le (by omega)]), n, rfl⟩

end Go.Proofs.Ytaepanmkofhgoaa
