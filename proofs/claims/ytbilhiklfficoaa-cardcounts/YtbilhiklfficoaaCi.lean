/- Contracts: Least, Most, Just. -/
import Derived.Test.YtbilhiklfficoaaCh
set_option linter.unusedVariables false
set_option linter.unusedSimpArgs false
namespace Go.Proofs.Ytbilhiklfficoaa
open Go.RowKit Go.Maps

/-- A number's bits. -/
def bitK (N m : Nat) : List Bool := (List.range m).map fun i => decide (N / 2 ^ i % 2 = 1)
theorem bitK_num : ∀ (N m : Nat), numB (bitK N m) = N % 2 ^ m
  | N, 0 => by simp [bitK, numB, Nat.mod_one]
  | N, m + 1 => by
    have ih := bitK_num N m
    unfold bitK at *
    rw [List.range_succ, List.map_append, List.map_singleton, numB_snoc, ih, mod_next, List.length_map, List.length_range]
    by_cases h : N / 2 ^ m % 2 = 1
    · rw [if_pos h, decide_eq_true h, b2n_t]; omega
    · rw [if_neg h, decide_eq_false h, b2n_f]; omega
theorem const_wt (g : List Gt) (N m : Nat) : Wt g (constL (N : Int) m) (fun _ => bitK N m) := by
  have e : ∀ i : Nat, (N : Int) / 2 ^ i % 2 = ((N / 2 ^ i % 2 : Nat) : Int) := fun i => by norm_cast
  refine ⟨wd_const fun k hk => ?_, fun ins => ?_⟩
  · obtain ⟨i, _, rfl⟩ := List.mem_map.1 hk
    rw [e]
    omega
  · unfold bitsW constL bitK
    rw [List.map_map]
    refine List.map_congr_left fun i _ => ?_
    show valF (allV ins g) ((N : Int) / 2 ^ i % 2) = _
    rw [e]
    have : N / 2 ^ i % 2 = 0 ∨ N / 2 ^ i % 2 = 1 := by omega
    rcases this with h | h <;> rw [h]
    · exact val_zero _
    · exact val_one _

theorem WR.wo {w W : World} {B M : Nat} {v : Value} {g : List Gt} {n q : Nat} {l : List Int} {f : List Bool → List Bool} (h : WR w W B M v g n q l f) : Wt g l f := h.wt
theorem Fr.below {w W : World} {B M : Nat} {v : Value} {al : Option Addr} {l : List Int} (h : Fr w B M v al l) (hb : Below w.heap.size w W) : Fr W B M v al l :=
  ⟨h.row.below hb, fun b off e => ⟨Nat.lt_of_lt_of_le (h.far b off e).1 hb.size, (h.far b off e).2⟩⟩

section
variable (w : World) (B M : Nat) (v : Value) (g : List Gt)
theorem cnt_len {l : List Int} {A : List Bool → List Bool} (hw : Wt g l A) (ins : List Bool) : cntT (A ins) ≤ l.length := by
  have := cntT_le (A ins)
  rwa [hw.len ins] at this
theorem least_no (ax : Option Addr) (ca : Nat) (l : List Int) (K : Int) (hA : Gr w B M v g) (hr : Row w ax l) (hl : l.length ≤ 100) (hm : mayL g l = false) :
    Calls Try.prog 16 #[.pointer (some ⟨B, 0, none⟩), .slice ax l.length ca, .int .i64 K] w fun e w' => e = .returned (.int .i64 (-1)) ∧ w' = w := by
  have IC := isCounted_any w B M v g ax ca l hA hr hl
  rw [hm] at IC
  replace IC := hide IC
  clear hA hr
  go_enter Try.func16, Try.ntmps16
  go_wp2_with (go_at_call 27; refine (unhide IC).mono ?_; rintro e w' ⟨rfl, hw'⟩; subst w')
  go_ret
  exact ⟨rfl, rfl⟩

set_option maxHeartbeats 2000000 in
theorem least_yes (ax : Option Addr) (ca : Nat) (l : List Int) (n : Nat) (A : List Bool → List Bool) (K : Int) (hK : inI64 K)
    (hA : Gr w B M v g) (hlen : g.length ≤ 890000) (hn : l.length = n) (h64 : n ≤ 64) (hr : Row w ax l) (hf : ax = none → l = []) (hw : Wt g l A) :
    Calls Try.prog 16 #[.pointer (some ⟨B, 0, none⟩), .slice ax n ca, .int .i64 K] w (AP w B M v g 5000 (fun ins => decide (K ≤ (cntT (A ins) : Int)))) := by
  have IC : Hid (Calls Try.prog 27 #[.pointer (some ⟨B, 0, none⟩), .slice ax n ca] w fun e w' => e = .returned (.bool true) ∧ w' = w) := by
    have h := isCounted_any w B M v g ax ca l hA hr (by omega)
    rwa [mayL_iff.2 ⟨hw.1, by omega⟩, hn] at h
  have HC : Hid (∀ ins, cntT (A ins) ≤ n) := fun ins => hn ▸ cnt_len g hw ins
  have HA := hide hA
  by_cases h0 : K ≤ 0
  · have HF : Hid (AP w B M v g 5000 (fun ins => decide (K ≤ (cntT (A ins) : Int))) (.returned (.int .i64 1)) w) :=
      ⟨1, v, g, rfl, (St.refl hA).mono (by omega), (lt_one g).congr fun ins => by rw [eq_comm, decide_eq_true_eq]; omega⟩
    have hd : decide (K ≤ 0) = true := by simpa using h0
    clear hA hr hw
    go_enter Try.func16, Try.ntmps16
    go_wp2_with (go_at_call 27; refine (unhide IC).mono ?_; rintro e w' ⟨rfl, hw'⟩; subst w')
    go_ret
    exact HF.out
  · have hd : decide (K ≤ 0) = false := by simpa using h0
    by_cases h1 : (n : Int) < K
    · have HF : Hid (AP w B M v g 5000 (fun ins => decide (K ≤ (cntT (A ins) : Int))) (.returned (.int .i64 0)) w) :=
        ⟨0, v, g, rfl, (St.refl hA).mono (by omega), (lt_zero g).congr fun ins => by have := HC.out ins; rw [eq_comm, decide_eq_false_iff_not]; omega⟩
      have hd1 : decide ((n : Int) < K) = true := by simpa using h1
      clear hA hr hw
      go_enter Try.func16, Try.ntmps16
      go_wp2_with (go_at_call 27; refine (unhide IC).mono ?_; rintro e w' ⟨rfl, hw'⟩; subst w')
      go_ret
      exact HF.out
    · have hd1 : decide ((n : Int) < K) = false := by simpa using h1
      obtain ⟨N, rfl⟩ := Int.eq_ofNat_of_zero_le (show 0 ≤ K by omega)
      have CN := hide (count_yes w B M v g ax ca l n A hA (by omega) hn h64 hr hf hw)
      obtain ⟨m, hm⟩ : ∃ m, enN n = m := ⟨_, rfl⟩
      have hm16 : 1 ≤ m ∧ m ≤ 16 := by rw [← hm]; exact enN_16 (by omega)
      have HNL : Hid (N % 2 ^ m = N) := Nat.mod_eq_of_lt (Nat.lt_of_le_of_lt (m := n) (by omega) (by rw [← hm]; exact enN_lt n))
      rw [hm] at CN
      clear hA hr hw hm
      go_enter Try.func16, Try.ntmps16
      go_wp2_with (first
        | (go_at_call 27; refine (unhide IC).mono ?_; rintro e w' ⟨rfl, hw'⟩; subst w')
        | (go_at_call 9; refine (unhide CN).mono ?_; rintro e w1 ⟨f, ⟨q1, l1, v1, g1, rfl, s1, b1⟩, hnum⟩)
        | (go_at_call 39; refine (const_any w1 (N : Int) (by unfold inI64; omega) m hm16.1 hm16.2).mono ?_; rintro e w2 ⟨q2, rfl, r2, hq2, hb2⟩)
        | (go_at_call 38; refine (less_yes w2 B M v1 g1 (some ⟨q1, 0, none⟩) (some ⟨q2, 0, none⟩) m m l1 (constL (N : Int) m) m f (fun _ => bitK N m) (s1.gr.below hb2) (by have := s1.len; omega) b1.len (constL_len _ _) hm16.1 hm16.2 (Nat.le_refl _) (Nat.le_refl _) (b1.fr.below hb2) (fr_new s1.gr r2 hq2) b1.wt (const_wt g1 N m)).mono ?_; rintro e w3 ⟨x3, v3, g3, rfl, s3, b3⟩)
        | (go_at_call 37; refine (negM w3 g3 x3 _ s3.gr.le b3).mono ?_; rintro e w' ⟨rfl, hw'⟩; subst w'))
      go_ret
      refine ⟨notI x3, v3, g3, rfl, ((s1.below hb2).trans s3).mono (by omega), b3.not.congr fun ins => ?_⟩
      rw [bitK_num, HNL.out, hnum ins, ← decide_not, decide_eq_decide]
      omega

set_option maxHeartbeats 2000000 in
theorem most_no (ax : Option Addr) (ca : Nat) (l : List Int) (K : Int) (hK : inI64 K) (hA : Gr w B M v g) (hr : Row w ax l) (hl : l.length ≤ 100) (hm : mayL g l = false) :
    Calls Try.prog 17 #[.pointer (some ⟨B, 0, none⟩), .slice ax l.length ca, .int .i64 K] w fun e w' => e = .returned (.int .i64 (-1)) ∧ w' = w := by
  have LN : Hid (∀ x, Calls Try.prog 16 #[.pointer (some ⟨B, 0, none⟩), .slice ax l.length ca, .int .i64 x] w fun e w' => e = .returned (.int .i64 (-1)) ∧ w' = w) := fun x => least_no w B M v g ax ca l x hA hr hl hm
  have NG := hide (neg_any w (-1) (by unfold inI64; omega))
  rw [show negF (-1) = -1 by rfl] at NG
  have RM := fun (W : World) => (run_minmax K (l.length : Int) W).1
  unfold inI64 at hK
  have h1 : -9223372036854775808 ≤ min K (l.length : Int) := by omega
  have h2 : min K (l.length : Int) ≤ 100 := by omega
  generalize min K (l.length : Int) = x at *
  clear hA hr
  go_enter Try.func17, Try.ntmps17
  go_wp2_with (first
    | (go_at_call 16; refine (unhide LN _).mono ?_; rintro e w' ⟨rfl, hw'⟩; subst w')
    | (go_at_call 37; refine (unhide NG).mono ?_; rintro e w' ⟨rfl, hw'⟩; subst w'))
  go_ret
  exact ⟨rfl, rfl⟩

set_option maxHeartbeats 2000000 in
theorem most_yes (ax : Option Addr) (ca : Nat) (l : List Int) (n : Nat) (A : List Bool → List Bool) (K : Int) (hK : inI64 K)
    (hA : Gr w B M v g) (hlen : g.length ≤ 890000) (hn : l.length = n) (h64 : n ≤ 64) (hr : Row w ax l) (hf : ax = none → l = []) (hw : Wt g l A) :
    Calls Try.prog 17 #[.pointer (some ⟨B, 0, none⟩), .slice ax n ca, .int .i64 K] w (AP w B M v g 5000 (fun ins => decide ((cntT (A ins) : Int) ≤ K))) := by
  have HC : Hid (∀ ins, cntT (A ins) ≤ n) := fun ins => hn ▸ cnt_len g hw ins
  unfold inI64 at hK
  have h1 : -9223372036854775808 ≤ min K (n : Int) := by omega
  have h2 : min K (n : Int) ≤ 64 := by omega
  have LN := hide (least_yes w B M v g ax ca l n A (min K (n : Int) + 1) (by unfold inI64; omega) hA hlen hn h64 hr hf hw)
  have RM := fun (W : World) => (run_minmax K (n : Int) W).1
  have HX : Hid (min K (n : Int) = min K n) := rfl
  have hwx : IntKind.i64.wrap (min K (n : Int) + 1) = min K (n : Int) + 1 := by rw [IntKind.wrap_i64]; omega
  obtain ⟨x, hx⟩ : ∃ x, min K (n : Int) = x := ⟨_, rfl⟩
  have HXX := hide hx
  rw [hx] at LN RM h1 h2 hwx
  clear hA hr hw hx HX
  go_enter Try.func17, Try.ntmps17
  go_wp2_with (first
    | (go_at_call 16; refine (unhide LN).mono ?_; rintro e w1 ⟨x1, v1, g1, rfl, s1, b1⟩)
    | (go_at_call 37; refine (negM w1 g1 x1 _ s1.gr.le b1).mono ?_; rintro e w' ⟨rfl, hw'⟩; subst w'))
  go_ret
  refine ⟨notI x1, v1, g1, rfl, s1, b1.not.congr fun ins => ?_⟩
  have h3 := HC.out ins
  have h4 := HXX.out
  rw [← decide_not, decide_eq_decide]
  omega

theorem just_no (ax : Option Addr) (ca : Nat) (l : List Int) (K : Int) (hA : Gr w B M v g) (hr : Row w ax l) (hl : l.length ≤ 100) (hm : mayL g l = false) :
    Calls Try.prog 18 #[.pointer (some ⟨B, 0, none⟩), .slice ax l.length ca, .int .i64 K] w fun e w' => e = .returned (.int .i64 (-1)) ∧ w' = w := by
  have IC := isCounted_any w B M v g ax ca l hA hr hl
  rw [hm] at IC
  replace IC := hide IC
  clear hA hr
  go_enter Try.func18, Try.ntmps18
  go_wp2_with (go_at_call 27; refine (unhide IC).mono ?_; rintro e w' ⟨rfl, hw'⟩; subst w')
  go_ret
  exact ⟨rfl, rfl⟩

set_option maxHeartbeats 2000000 in
theorem just_yes (ax : Option Addr) (ca : Nat) (l : List Int) (n : Nat) (A : List Bool → List Bool) (K : Int) (hK : inI64 K)
    (hA : Gr w B M v g) (hlen : g.length ≤ 890000) (hn : l.length = n) (h64 : n ≤ 64) (hr : Row w ax l) (hf : ax = none → l = []) (hw : Wt g l A) :
    Calls Try.prog 18 #[.pointer (some ⟨B, 0, none⟩), .slice ax n ca, .int .i64 K] w (AP w B M v g 5000 (fun ins => decide ((cntT (A ins) : Int) = K))) := by
  have IC : Hid (Calls Try.prog 27 #[.pointer (some ⟨B, 0, none⟩), .slice ax n ca] w fun e w' => e = .returned (.bool true) ∧ w' = w) := by
    have h := isCounted_any w B M v g ax ca l hA hr (by omega)
    rwa [mayL_iff.2 ⟨hw.1, by omega⟩, hn] at h
  have HC : Hid (∀ ins, cntT (A ins) ≤ n) := fun ins => hn ▸ cnt_len g hw ins
  have HF : Hid (K < 0 ∨ (n : Int) < K → AP w B M v g 5000 (fun ins => decide ((cntT (A ins) : Int) = K)) (.returned (.int .i64 0)) w) := fun h =>
    ⟨0, v, g, rfl, (St.refl hA).mono (by omega), (lt_zero g).congr fun ins => by have := HC.out ins; rw [eq_comm, decide_eq_false_iff_not]; omega⟩
  by_cases h0 : K < 0
  · have hd : decide (K < 0) = true := by simpa using h0
    have HG := hide (HF.out (.inl h0))
    clear hA hr hw HF
    go_enter Try.func18, Try.ntmps18
    go_wp2_with (go_at_call 27; refine (unhide IC).mono ?_; rintro e w' ⟨rfl, hw'⟩; subst w')
    go_ret
    exact HG.out
  · have hd : decide (K < 0) = false := by simpa using h0
    by_cases h1 : (n : Int) < K
    · have hd1 : decide ((n : Int) < K) = true := by simpa using h1
      have HG := hide (HF.out (.inr h1))
      clear hA hr hw HF
      go_enter Try.func18, Try.ntmps18
      go_wp2_with (go_at_call 27; refine (unhide IC).mono ?_; rintro e w' ⟨rfl, hw'⟩; subst w')
      go_ret
      exact HG.out
    · have hd1 : decide ((n : Int) < K) = false := by simpa using h1
      obtain ⟨N, rfl⟩ := Int.eq_ofNat_of_zero_le (show 0 ≤ K by omega)
      have CN := hide (count_yes w B M v g ax ca l n A hA (by omega) hn h64 hr hf hw)
      obtain ⟨m, hm⟩ : ∃ m, enN n = m := ⟨_, rfl⟩
      have hm16 : 1 ≤ m ∧ m ≤ 16 := by rw [← hm]; exact enN_16 (by omega)
      have HNL : Hid (N % 2 ^ m = N) := Nat.mod_eq_of_lt (Nat.lt_of_le_of_lt (m := n) (by omega) (by rw [← hm]; exact enN_lt n))
      rw [hm] at CN
      clear hA hr hw hm HF
      go_enter Try.func18, Try.ntmps18
      go_wp2_with (first
        | (go_at_call 27; refine (unhide IC).mono ?_; rintro e w' ⟨rfl, hw'⟩; subst w')
        | (go_at_call 9; refine (unhide CN).mono ?_; rintro e w1 ⟨f, ⟨q1, l1, v1, g1, rfl, s1, b1⟩, hnum⟩)
        | (go_at_call 39; refine (const_any w1 (N : Int) (by unfold inI64; omega) m hm16.1 hm16.2).mono ?_; rintro e w2 ⟨q2, rfl, r2, hq2, hb2⟩)
        | (go_at_call 40; refine (eq_yes w2 B M v1 g1 (some ⟨q1, 0, none⟩) (some ⟨q2, 0, none⟩) m m l1 (constL (N : Int) m) m f (fun _ => bitK N m) (s1.gr.below hb2) (by have := s1.len; omega) b1.len (constL_len _ _) hm16.1 hm16.2 (Nat.le_refl _) (Nat.le_refl _) (b1.fr.below hb2) (fr_new s1.gr r2 hq2) b1.wt (const_wt g1 N m)).mono ?_; rintro e w3 ⟨x3, v3, g3, rfl, s3, b3⟩))
      go_ret
      refine ⟨x3, v3, g3, rfl, ((s1.below hb2).trans s3).mono (by omega), b3.congr fun ins => ?_⟩
      rw [bitK_num, HNL.out, hnum ins, decide_eq_decide]
      omega
end
end Go.Proofs.Ytbilhiklfficoaa
