/- Contracts: what is told of lists that are no words; the document's Is; one world for both lists. -/
import Derived.Test.YtdjfciigfledhaaXf
set_option linter.unusedVariables false
set_option linter.unusedSimpArgs false
namespace Go.Proofs.Ytdjfciigfledhaa
open Go.RowKit Go.Maps

section
variable (w : World)
set_option maxHeartbeats 400000 in
theorem refIs_any (al : Option Addr) (cap : Nat) (g : List Gt) (l : Int) (hl : g.length ≤ 1000) :
    Calls Try.prog 40 #[.slice al g.length cap, .int .i64 l] w fun e w' => e = .returned (.bool (isB g l)) ∧ w' = w := by
  have hisB : isB g l = (decide (0 ≤ l) && decide (l < 2 * ((g.length : Int) + 1))) := rfl
  rw [hisB]
  clear hisB
  by_cases h0 : 0 ≤ l
  · go_enter Try.func40, Try.ntmps40
    go_wp2
    all_goals
      go_ret
      exact ⟨ret_bool (by simp [h0]; try omega), rfl⟩
  · have h0' : decide (0 ≤ l) = false := by simpa using h0
    go_enter Try.func40, Try.ntmps40
    go_wp2
    all_goals
      go_ret
      exact ⟨ret_bool (by simp [h0]; try omega), rfl⟩

variable (B M : Nat) (v : Value) (g : List Gt)
set_option maxHeartbeats 400000 in
theorem add_no (ax bx : Option Addr) (ca cb : Nat) (a b : List Int) (hA : Gr w B M v g) (hr : Row w ax a) (hs : Row w bx b) (hla : a.length ≤ 40) (hlb : b.length ≤ 40) (hk : alkB g a b = false) :
    Calls Try.prog 12 #[.pointer (some ⟨B, 0, none⟩), .slice ax a.length ca, .slice bx b.length cb] w fun e w' => e = .returned (.slice none 0 0) ∧ w' = w := by
  have AL := valike_any w B M v g ax bx ca cb a b a.length b.length hA rfl rfl hr hs (by unfold maxLen; omega) (by unfold maxLen; omega)
  rw [hk] at AL
  replace AL := hide AL
  clear hA hr hs hk
  generalize a.length = n at *
  generalize b.length = m at *
  go_enter Try.func12, Try.ntmps12
  go_wp2_with (first
    | (go_at_call 49; refine (unhide AL).mono ?_; rintro e w0 ⟨rfl, hw0⟩; subst w0))
  go_ret
  exact ⟨rfl, rfl⟩
set_option maxHeartbeats 400000 in
theorem sub_no (ax bx : Option Addr) (ca cb : Nat) (a b : List Int) (hA : Gr w B M v g) (hr : Row w ax a) (hs : Row w bx b) (hla : a.length ≤ 40) (hlb : b.length ≤ 40) (hk : alkB g a b = false) :
    Calls Try.prog 13 #[.pointer (some ⟨B, 0, none⟩), .slice ax a.length ca, .slice bx b.length cb] w fun e w' => e = .returned (.slice none 0 0) ∧ w' = w := by
  have AL := valike_any w B M v g ax bx ca cb a b a.length b.length hA rfl rfl hr hs (by unfold maxLen; omega) (by unfold maxLen; omega)
  rw [hk] at AL
  replace AL := hide AL
  clear hA hr hs hk
  generalize a.length = n at *
  generalize b.length = m at *
  go_enter Try.func13, Try.ntmps13
  go_wp2_with (first
    | (go_at_call 49; refine (unhide AL).mono ?_; rintro e w0 ⟨rfl, hw0⟩; subst w0))
  go_ret
  exact ⟨rfl, rfl⟩
set_option maxHeartbeats 400000 in
theorem both_no (ax bx : Option Addr) (ca cb : Nat) (a b : List Int) (hA : Gr w B M v g) (hr : Row w ax a) (hs : Row w bx b) (hla : a.length ≤ 40) (hlb : b.length ≤ 40) (hk : alkB g a b = false) :
    Calls Try.prog 56 #[.pointer (some ⟨B, 0, none⟩), .func (.func 57) #[.pointer (some ⟨B, 0, none⟩)] #[], .slice ax a.length ca, .slice bx b.length cb] w fun e w' => e = .returned (.slice none 0 0) ∧ w' = w := by
  have AL := valike_any w B M v g ax bx ca cb a b a.length b.length hA rfl rfl hr hs (by unfold maxLen; omega) (by unfold maxLen; omega)
  rw [hk] at AL
  replace AL := hide AL
  clear hA hr hs hk
  generalize a.length = n at *
  generalize b.length = m at *
  go_enter Try.func56, Try.ntmps56
  go_wp2_with (first
    | (go_at_call 49; refine (unhide AL).mono ?_; rintro e w0 ⟨rfl, hw0⟩; subst w0))
  go_ret
  exact ⟨rfl, rfl⟩
set_option maxHeartbeats 400000 in
theorem andw_no (ax bx : Option Addr) (ca cb : Nat) (a b : List Int) (hA : Gr w B M v g) (hr : Row w ax a) (hs : Row w bx b) (hla : a.length ≤ 40) (hlb : b.length ≤ 40) (hk : alkB g a b = false) :
    Calls Try.prog 20 #[.pointer (some ⟨B, 0, none⟩), .slice ax a.length ca, .slice bx b.length cb] w fun e w' => e = .returned (.slice none 0 0) ∧ w' = w := by
  have BN := hide (both_no w B M v g ax bx ca cb a b hA hr hs hla hlb hk)
  clear hA hr hs hk
  generalize a.length = n at *
  generalize b.length = m at *
  go_enter Try.func20, Try.ntmps20
  go_wp2_with (first
    | (go_at_call 56; refine (unhide BN).mono ?_; rintro e w0 ⟨rfl, hw0⟩; subst w0))
  go_ret
  exact ⟨rfl, rfl⟩
set_option maxHeartbeats 400000 in
theorem shift_no (ax bx : Option Addr) (ca cb : Nat) (a b : List Int) (hA : Gr w B M v g) (hr : Row w ax a) (hs : Row w bx b) (hla : a.length ≤ 40) (hlb : b.length ≤ 40) (hk : alkB g a b = false) :
    Calls Try.prog 61 #[.pointer (some ⟨B, 0, none⟩), .func (.func 62) #[] #[], .slice ax a.length ca, .slice bx b.length cb] w fun e w' => e = .returned (.slice none 0 0) ∧ w' = w := by
  have AL := valike_any w B M v g ax bx ca cb a b a.length b.length hA rfl rfl hr hs (by unfold maxLen; omega) (by unfold maxLen; omega)
  rw [hk] at AL
  replace AL := hide AL
  clear hA hr hs hk
  generalize a.length = n at *
  generalize b.length = m at *
  go_enter Try.func61, Try.ntmps61
  go_wp2_with (first
    | (go_at_call 49; refine (unhide AL).mono ?_; rintro e w0 ⟨rfl, hw0⟩; subst w0))
  go_ret
  exact ⟨rfl, rfl⟩
set_option maxHeartbeats 400000 in
theorem shl_no (ax bx : Option Addr) (ca cb : Nat) (a b : List Int) (hA : Gr w B M v g) (hr : Row w ax a) (hs : Row w bx b) (hla : a.length ≤ 40) (hlb : b.length ≤ 40) (hk : alkB g a b = false) :
    Calls Try.prog 26 #[.pointer (some ⟨B, 0, none⟩), .slice ax a.length ca, .slice bx b.length cb] w fun e w' => e = .returned (.slice none 0 0) ∧ w' = w := by
  have BN := hide (shift_no w B M v g ax bx ca cb a b hA hr hs hla hlb hk)
  clear hA hr hs hk
  generalize a.length = n at *
  generalize b.length = m at *
  go_enter Try.func26, Try.ntmps26
  go_wp2_with (first
    | (go_at_call 61; refine (unhide BN).mono ?_; rintro e w0 ⟨rfl, hw0⟩; subst w0))
  go_ret
  exact ⟨rfl, rfl⟩
set_option maxHeartbeats 400000 in
theorem div_no (ax bx : Option Addr) (ca cb : Nat) (a b : List Int) (hA : Gr w B M v g) (hr : Row w ax a) (hs : Row w bx b) (hla : a.length ≤ 40) (hlb : b.length ≤ 40) (hk : alkB g a b = false) :
    Calls Try.prog 17 #[.pointer (some ⟨B, 0, none⟩), .slice ax a.length ca, .slice bx b.length cb] w fun e w' => e = .returned (.tuple #[.slice none 0 0, .slice none 0 0]) ∧ w' = w := by
  have AL := valike_any w B M v g ax bx ca cb a b a.length b.length hA rfl rfl hr hs (by unfold maxLen; omega) (by unfold maxLen; omega)
  rw [hk] at AL
  replace AL := hide AL
  clear hA hr hs hk
  generalize a.length = n at *
  generalize b.length = m at *
  go_enter Try.func17, Try.ntmps17
  go_wp2_with (first
    | (go_at_call 49; refine (unhide AL).mono ?_; rintro e w0 ⟨rfl, hw0⟩; subst w0))
  go_ret2
  exact ⟨rfl, rfl⟩
set_option maxHeartbeats 400000 in
theorem eq_no (ax bx : Option Addr) (ca cb : Nat) (a b : List Int) (hA : Gr w B M v g) (hr : Row w ax a) (hs : Row w bx b) (hla : a.length ≤ 40) (hlb : b.length ≤ 40) (hk : alkB g a b = false) :
    Calls Try.prog 32 #[.pointer (some ⟨B, 0, none⟩), .slice ax a.length ca, .slice bx b.length cb] w fun e w' => e = .returned (.int .i64 (-1)) ∧ w' = w := by
  have AL := valike_any w B M v g ax bx ca cb a b a.length b.length hA rfl rfl hr hs (by unfold maxLen; omega) (by unfold maxLen; omega)
  rw [hk] at AL
  replace AL := hide AL
  clear hA hr hs hk
  generalize a.length = n at *
  generalize b.length = m at *
  go_enter Try.func32, Try.ntmps32
  go_wp2_with (first
    | (go_at_call 49; refine (unhide AL).mono ?_; rintro e w0 ⟨rfl, hw0⟩; subst w0))
  go_ret
  exact ⟨rfl, rfl⟩
set_option maxHeartbeats 400000 in
theorem less_no (ax bx : Option Addr) (ca cb : Nat) (a b : List Int) (hA : Gr w B M v g) (hr : Row w ax a) (hs : Row w bx b) (hla : a.length ≤ 40) (hlb : b.length ≤ 40) (hk : alkB g a b = false) :
    Calls Try.prog 33 #[.pointer (some ⟨B, 0, none⟩), .slice ax a.length ca, .slice bx b.length cb] w fun e w' => e = .returned (.int .i64 (-1)) ∧ w' = w := by
  have AL := valike_any w B M v g ax bx ca cb a b a.length b.length hA rfl rfl hr hs (by unfold maxLen; omega) (by unfold maxLen; omega)
  rw [hk] at AL
  replace AL := hide AL
  clear hA hr hs hk
  generalize a.length = n at *
  generalize b.length = m at *
  go_enter Try.func33, Try.ntmps33
  go_wp2_with (first
    | (go_at_call 49; refine (unhide AL).mono ?_; rintro e w0 ⟨rfl, hw0⟩; subst w0))
  go_ret
  exact ⟨rfl, rfl⟩
set_option maxHeartbeats 400000 in
theorem ite_no (ax bx : Option Addr) (ca cb : Nat) (a b : List Int) (hA : Gr w B M v g) (hr : Row w ax a) (hs : Row w bx b) (hla : a.length ≤ 40) (hlb : b.length ≤ 40) (hk : alkB g a b = false) :
    Calls Try.prog 31 #[.pointer (some ⟨B, 0, none⟩), .int .i64 1, .slice ax a.length ca, .slice bx b.length cb] w fun e w' => e = .returned (.slice none 0 0) ∧ w' = w := by
  have AL := valike_any w B M v g ax bx ca cb a b a.length b.length hA rfl rfl hr hs (by unfold maxLen; omega) (by unfold maxLen; omega)
  rw [hk] at AL
  replace AL := hide AL
  have IS := isLit_any w B M v g 1 hA
  rw [show isB g 1 = true from (lt_one g).1] at IS
  replace IS := hide IS
  clear hA hr hs hk
  generalize a.length = n at *
  generalize b.length = m at *
  go_enter Try.func31, Try.ntmps31
  go_wp2_with (first
    | (go_at_call 67; refine (unhide IS).mono ?_; rintro e w0 ⟨rfl, hw0⟩; subst w0)
    | (go_at_call 49; refine (unhide AL).mono ?_; rintro e w0 ⟨rfl, hw0⟩; subst w0))
  go_ret
  exact ⟨rfl, rfl⟩
set_option maxHeartbeats 400000 in
theorem ite_bad (ax bx : Option Addr) (ca cb : Nat) (a b : List Int) (hA : Gr w B M v g) (hr : Row w ax a) (hs : Row w bx b) (hla : a.length ≤ 40) (hlb : b.length ≤ 40) :
    Calls Try.prog 31 #[.pointer (some ⟨B, 0, none⟩), .int .i64 (-1), .slice ax a.length ca, .slice bx b.length cb] w fun e w' => e = .returned (.slice none 0 0) ∧ w' = w := by
  have IS := isLit_any w B M v g (-1) hA
  rw [show isB g (-1) = false by rw [Bool.eq_false_iff]; intro h; have := isB_iff.1 h; omega] at IS
  replace IS := hide IS
  clear hA hr hs
  generalize a.length = n at *
  generalize b.length = m at *
  go_enter Try.func31, Try.ntmps31
  go_wp2_with (first
    | (go_at_call 67; refine (unhide IS).mono ?_; rintro e w0 ⟨rfl, hw0⟩; subst w0))
  go_ret
  exact ⟨rfl, rfl⟩
end

/-- Both lists are words, of a graph that grows. -/
structure LC (w0 W : World) (B M : Nat) (v : Value) (g : List Gt) (k n : Nat) (ax bx : Option Addr) (a b : List Int) : Prop where
  gr : Gr W B M v g
  len : g.length ≤ k
  fa : Fr W B M v ax a
  fb : Fr W B M v bx b
  wa : Wd g a
  wb : Wd g b
  la : a.length = n
  lb : b.length = n
  low : ∀ b, Sv B M v b → w0.heap.size ≤ b
  bel : Below w0.heap.size w0 W
section
variable {w0 w W : World} {B M k j n : Nat} {v v' : Value} {g g' : List Gt} {ax bx : Option Addr} {ca cb : Nat} {a b : List Int}
theorem LC.st (h : LC w0 w B M v g k n ax bx a b) (s : St w W B M v v' g g' j) : LC w0 W B M v' g' (k + j) n ax bx a b :=
  ⟨s.gr, by have := s.len; have := h.len; omega, s.fr h.fa, s.fr h.fb, h.wa.grow s.grow, h.wb.grow s.grow, h.la, h.lb, lo_new h.low s.nv h.bel.size, below_kp h.bel s.kp h.low h.bel.size⟩
/-- What an act tells: a word. -/
def CW (w0 : World) (B M : Nat) (k n : Nat) (ax bx : Option Addr) (a b : List Int) (e : Ending) (w' : World) : Prop := ∃ q v' g', e = .returned (.slice (some ⟨q, 0, none⟩) n n) ∧ LC w0 w' B M v' g' k n ax bx a b
/-- What an act tells: a literal. -/
def CL (w0 : World) (B M : Nat) (k n : Nat) (ax bx : Option Addr) (a b : List Int) (e : Ending) (w' : World) : Prop := ∃ (l : Int) (v' : Value) (g' : List Gt), e = .returned (.int .i64 l) ∧ 0 ≤ l ∧ LC w0 w' B M v' g' k n ax bx a b
theorem WP.cw {f : List Bool → List Bool} {e : Ending} {w' : World} (h : LC w0 w B M v g k n ax bx a b) (hw : WP w B M v g n j f e w') : CW w0 B M (k + j) n ax bx a b e w' := by
  obtain ⟨q, l, v', g', rfl, s, r⟩ := hw
  exact ⟨q, v', g', rfl, h.st s⟩
theorem NP.cw {N : List Bool → Nat} {e : Ending} {w' : World} (h : LC w0 w B M v g k n ax bx a b) (hw : NP w B M v g n j N e w') : CW w0 B M (k + j) n ax bx a b e w' := by
  obtain ⟨f, hf, _⟩ := hw
  exact hf.cw h
theorem AP.cl {m : List Bool → Bool} {e : Ending} {w' : World} (h : LC w0 w B M v g k n ax bx a b) (hw : AP w B M v g j m e w') : CL w0 B M (k + j) n ax bx a b e w' := by
  obtain ⟨l, v', g', rfl, s, t⟩ := hw
  exact ⟨l, v', g', rfl, (isB_iff.1 t.1).1, h.st s⟩
theorem add_cw (h : LC w0 w B M v g k n ax bx a b) (hk : k ≤ 100000) (h1 : 1 ≤ n) (h16 : n ≤ 16) (hca : n ≤ ca) (hcb : n ≤ cb) : Calls Try.prog 12 #[.pointer (some ⟨B, 0, none⟩), .slice ax n ca, .slice bx n cb] w (CW w0 B M (k + 160) n ax bx a b) :=
  (add_yes w B M v g ax bx ca cb a b n (fun ins => bitsW ins g a) (fun ins => bitsW ins g b) h.gr (by have := h.len; omega) h.la h.lb h1 h16 hca hcb h.fa h.fb ⟨h.wa, fun _ => rfl⟩ ⟨h.wb, fun _ => rfl⟩).mono fun e w' hn => hn.cw h
theorem sub_cw (h : LC w0 w B M v g k n ax bx a b) (hk : k ≤ 100000) (h1 : 1 ≤ n) (h16 : n ≤ 16) (hca : n ≤ ca) (hcb : n ≤ cb) : Calls Try.prog 13 #[.pointer (some ⟨B, 0, none⟩), .slice ax n ca, .slice bx n cb] w (CW w0 B M (k + 160) n ax bx a b) :=
  (sub_yes w B M v g ax bx ca cb a b n (fun ins => bitsW ins g a) (fun ins => bitsW ins g b) h.gr (by have := h.len; omega) h.la h.lb h1 h16 hca hcb h.fa h.fb ⟨h.wa, fun _ => rfl⟩ ⟨h.wb, fun _ => rfl⟩).mono fun e w' hn => hn.cw h
theorem and_cw (h : LC w0 w B M v g k n ax bx a b) (hk : k ≤ 100000) (h1 : 1 ≤ n) (h16 : n ≤ 16) (hca : n ≤ ca) (hcb : n ≤ cb) : Calls Try.prog 20 #[.pointer (some ⟨B, 0, none⟩), .slice ax n ca, .slice bx n cb] w (CW w0 B M (k + 48) n ax bx a b) :=
  (andw_yes w B M v g ax bx ca cb a b n (fun ins => bitsW ins g a) (fun ins => bitsW ins g b) h.gr (by have := h.len; omega) h.la h.lb h1 h16 hca hcb h.fa h.fb ⟨h.wa, fun _ => rfl⟩ ⟨h.wb, fun _ => rfl⟩).mono fun e w' hn => hn.cw h
theorem shl_cw (h : LC w0 w B M v g k n ax bx a b) (hk : k ≤ 100000) (h1 : 1 ≤ n) (h16 : n ≤ 16) (hca : n ≤ ca) (hcb : n ≤ cb) : Calls Try.prog 26 #[.pointer (some ⟨B, 0, none⟩), .slice ax n ca, .slice bx n cb] w (CW w0 B M (k + 300) n ax bx a b) :=
  (shl_yes w B M v g ax bx ca cb a b n (fun ins => bitsW ins g a) (fun ins => bitsW ins g b) h.gr (by have := h.len; omega) h.la h.lb h1 h16 hca hcb h.fa h.fb ⟨h.wa, fun _ => rfl⟩ ⟨h.wb, fun _ => rfl⟩).mono fun e w' hn => hn.cw h
theorem ite_cw (h : LC w0 w B M v g k n ax bx a b) (hk : k ≤ 100000) (h1 : 1 ≤ n) (h16 : n ≤ 16) (hca : n ≤ ca) (hcb : n ≤ cb) : Calls Try.prog 31 #[.pointer (some ⟨B, 0, none⟩), .int .i64 1, .slice ax n ca, .slice bx n cb] w (CW w0 B M (k + 48) n ax bx a b) :=
  (ite_yes w B M v g 1 (fun _ => true) ax bx ca cb a b n (fun ins => bitsW ins g a) (fun ins => bitsW ins g b) h.gr (by have := h.len; omega) h.la h.lb h1 h16 hca hcb h.fa h.fb ⟨h.wa, fun _ => rfl⟩ ⟨h.wb, fun _ => rfl⟩ (lt_one g)).mono fun e w' hn => hn.cw h
theorem eq_cl (h : LC w0 w B M v g k n ax bx a b) (hk : k ≤ 100000) (h1 : 1 ≤ n) (h16 : n ≤ 16) (hca : n ≤ ca) (hcb : n ≤ cb) : Calls Try.prog 32 #[.pointer (some ⟨B, 0, none⟩), .slice ax n ca, .slice bx n cb] w (CL w0 B M (k + 80) n ax bx a b) :=
  (eq_yes w B M v g ax bx ca cb a b n (fun ins => bitsW ins g a) (fun ins => bitsW ins g b) h.gr (by have := h.len; omega) h.la h.lb h1 h16 hca hcb h.fa h.fb ⟨h.wa, fun _ => rfl⟩ ⟨h.wb, fun _ => rfl⟩).mono fun e w' hn => hn.cl h
theorem less_cl (h : LC w0 w B M v g k n ax bx a b) (hk : k ≤ 100000) (h1 : 1 ≤ n) (h16 : n ≤ 16) (hca : n ≤ ca) (hcb : n ≤ cb) : Calls Try.prog 33 #[.pointer (some ⟨B, 0, none⟩), .slice ax n ca, .slice bx n cb] w (CL w0 B M (k + 80) n ax bx a b) :=
  (less_yes w B M v g ax bx ca cb a b n (fun ins => bitsW ins g a) (fun ins => bitsW ins g b) h.gr (by have := h.len; omega) h.la h.lb h1 h16 hca hcb h.fa h.fb ⟨h.wa, fun _ => rfl⟩ ⟨h.wb, fun _ => rfl⟩).mono fun e w' hn => hn.cl h
theorem div_cw (h : LC w0 w B M v g k n ax bx a b) (hk : k ≤ 100000) (h1 : 1 ≤ n) (h16 : n ≤ 16) (hca : n ≤ ca) (hcb : n ≤ cb) : Calls Try.prog 17 #[.pointer (some ⟨B, 0, none⟩), .slice ax n ca, .slice bx n cb] w fun e w' => ∃ q r v' g', e = .returned (.tuple #[.slice (some ⟨q, 0, none⟩) n n, .slice (some ⟨r, 0, none⟩) n n]) ∧ LC w0 w' B M v' g' (k + 5000) n ax bx a b := by
  refine (div_yes w B M v g ax bx ca cb a b n (fun ins => bitsW ins g a) (fun ins => bitsW ins g b) h.gr (by have := h.len; omega) h.la h.lb h1 h16 hca hcb h.fa h.fb ⟨h.wa, fun _ => rfl⟩ ⟨h.wb, fun _ => rfl⟩).mono fun e w' hn => ?_
  obtain ⟨q, r, ql, rl, v', g', Qf, Rf, rfl, hd, _⟩ := hn
  exact ⟨q, r, v', g', rfl, h.st hd.mq.st⟩
end
end Go.Proofs.Ytdjfciigfledhaa
