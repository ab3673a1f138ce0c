/- Contracts: difference, isWidth, Check, alike, word. -/
import Derived.Test.YtbilhiklfficoaaVd
set_option linter.unusedVariables false
set_option linter.unusedSimpArgs false
namespace Go.Proofs.Ytbilhiklfficoaa
open Go.RowKit Go.Maps

section
variable {w w1 w2 : World} {B M : Nat} {v v1 : Value} {g g1 : List Gt} {k j n : Nat} {e : Ending}
theorem WR.after {v2 : Value} {g2 : List Gt} {q : Nat} {l : List Int} {f : List Bool → List Bool} (h : WR w1 w2 B M v2 g2 n q l f) (hs : w.heap.size ≤ w1.heap.size) : WR w w2 B M v2 g2 n q l f :=
  ⟨h.rw, h.len, Nat.le_trans hs h.new, h.far, h.wt⟩
theorem WP.after {f : List Bool → List Bool} (h : WP w1 B M v1 g1 n j f e w2) (s : St w w1 B M v v1 g g1 k) : WP w B M v g n (k + j) f e w2 := by
  obtain ⟨q, l, v2, g2, rfl, h1, h2⟩ := h
  exact ⟨q, l, v2, g2, rfl, s.trans h1, h2.after s.kp.size⟩
theorem WP.mono {f : List Bool → List Bool} (h : WP w B M v g n k f e w1) (hk : k ≤ j) : WP w B M v g n j f e w1 := by
  obtain ⟨q, l, v2, g2, rfl, h1, h2⟩ := h
  exact ⟨q, l, v2, g2, rfl, h1.mono hk, h2⟩
theorem WP.congr {f f' : List Bool → List Bool} (h : WP w B M v g n k f e w1) (hf : ∀ ins, f ins = f' ins) : WP w B M v g n k f' e w1 := by
  obtain ⟨q, l, v2, g2, rfl, h1, h2⟩ := h
  exact ⟨q, l, v2, g2, rfl, h1, h2.rw, h2.len, h2.new, h2.far, h2.wt.congr hf⟩
theorem AP.after {m : List Bool → Bool} (h : AP w1 B M v1 g1 j m e w2) (s : St w w1 B M v v1 g g1 k) : AP w B M v g (k + j) m e w2 := by
  obtain ⟨l, v2, g2, rfl, h1, h2⟩ := h
  exact ⟨l, v2, g2, rfl, s.trans h1, h2⟩
theorem AP.mono {m : List Bool → Bool} (h : AP w B M v g k m e w1) (hk : k ≤ j) : AP w B M v g j m e w1 := by
  obtain ⟨l, v2, g2, rfl, h1, h2⟩ := h
  exact ⟨l, v2, g2, rfl, h1.mono hk, h2⟩
theorem AP.congr {m m' : List Bool → Bool} (h : AP w B M v g k m e w1) (hm : ∀ ins, m ins = m' ins) : AP w B M v g k m' e w1 := by
  obtain ⟨l, v2, g2, rfl, h1, h2⟩ := h
  exact ⟨l, v2, g2, rfl, h1, h2.congr hm⟩
end

/-- Is a list a word of a graph? -/
def wdB (g : List Gt) (a : List Int) : Bool := decide (1 ≤ a.length) && decide (a.length ≤ 16) && a.all (isB g)
def ckN (b : Bool) : Int := if b then 0 else 1
theorem wdB_iff {g : List Gt} {a : List Int} : wdB g a = true ↔ 1 ≤ a.length ∧ a.length ≤ 16 ∧ Wd g a := by
  simp [wdB, Wd, List.all_eq_true, and_assoc]
theorem Wt.ok {g : List Gt} {a : List Int} {A : List Bool → List Bool} (h : Wt g a A) (h1 : 1 ≤ a.length) (h16 : a.length ≤ 16) : wdB g a = true := wdB_iff.2 ⟨h1, h16, h.1⟩

section
variable (w : World) (B M : Nat) (v : Value) (g : List Gt)

set_option maxHeartbeats 400000 in
theorem isWidth_any (n : Int) : Calls Try.prog 48 #[.int .i64 n] w fun e w' => e = .returned (.bool (decide (1 ≤ n) && decide (n ≤ 16))) ∧ w' = w := by
  by_cases h : 1 ≤ n
  · go_enter Try.func48, Try.ntmps48
    go_wp2
    all_goals
      go_ret
      exact ⟨ret_bool (by simp [h]; try omega), rfl⟩
  · have h' : decide (1 ≤ n) = false := by simpa using h
    go_enter Try.func48, Try.ntmps48
    go_wp2
    all_goals
      go_ret
      exact ⟨ret_bool (by simp [h]; try omega), rfl⟩

set_option maxHeartbeats 1000000 in
theorem vcheck_any (ax : Option Addr) (ca : Nat) (a : List Int) (n : Nat) (hA : Gr w B M v g) (hn : a.length = n) (hr : Row w ax a) (hl : n ≤ maxLen) :
    Calls Try.prog 30 #[.pointer (some ⟨B, 0, none⟩), .slice ax n ca] w fun e w' => e = .returned (.int .i64 (ckN (wdB g a))) ∧ w' = w := by
  unfold maxLen at hl
  have IW := hide (isWidth_any w (n : Int))
  by_cases hw : 1 ≤ n ∧ n ≤ 16
  · have IL : Hid (∀ l, Calls Try.prog 46 #[.pointer (some ⟨B, 0, none⟩), .int .i64 l] w fun e w' => e = .returned (.bool (isB g l)) ∧ w' = w) := fun l => isLit_any w B M v g l hA
    have e1 : (decide ((1 : Int) ≤ n) && decide ((n : Int) ≤ 16)) = true := by simp; omega
    rw [e1] at IW
    have HR := hide hr
    have HN := hide hn
    have HW : Hid (wdB g a = a.all (isB g)) := by
      unfold Hid wdB
      rw [hn]; simp [hw.1, hw.2]
    clear hA hr hn e1
    go_enter Try.func30, Try.ntmps30
    go_wp2_with (first | (go_at_call 48; refine (unhide IW).mono ?_; rintro e w0 ⟨rfl, hw0⟩; subst w0))
    go_loop [13] (fun i => ∃ k : Nat, k ≤ n ∧ i = .int .i64 (k : Int) ∧ Hid ((a.take k).all (isB g) = true)) (fun i => n - (intOf i).toNat)
    case atStart => exact ⟨0, Nat.zero_le _, rfl, rfl⟩
    case round =>
      obtain ⟨k, hk, rfl, HK⟩ := hrel
      by_cases hlt : k < n
      · have hka : k < a.length := by rw [HN.out]; exact hlt
        obtain ⟨b, off, rfl, hb, hcell⟩ := HR.out k hka
        have hsn : (a.take (k + 1)).all (isB g) = isB g a[k] := by rw [List.take_succ_eq_append_getElem hka, List.all_append, HK.out]; simp
        have hbad : isB g a[k] = false → a.all (isB g) = false := fun h => by
          rw [List.all_eq_false]
          exact ⟨a[k], List.getElem_mem hka, by simp [h]⟩
        have HSN := hide hsn
        have HBAD := hide hbad
        clear hsn hbad
        generalize a[k] = x at *
        clear hka
        cases hx : isB g x with
        | true =>
          rw [hx] at HSN
          have I1 := unhide IL x
          rw [hx] at I1
          replace I1 := hide I1
          go_wp2_with (first | (go_at_call 46; refine (unhide I1).mono ?_; rintro e w0 ⟨rfl, hw0⟩; subst w0))
          go_round
          case rel => exact ⟨k + 1, by omega, by go_num, HSN.out⟩
          case measure => simp [intOf]; omega
        | false =>
          have I1 := unhide IL x
          rw [hx] at I1
          replace I1 := hide I1
          have HF : Hid (ckN (wdB g a) = 1) := by unfold Hid; rw [HW.out, HBAD.out hx]; rfl
          go_wp2_with (first | (go_at_call 46; refine (unhide I1).mono ?_; rintro e w0 ⟨rfl, hw0⟩; subst w0))
          go_ret
          exact ⟨ret_int HF.out.symm, rfl⟩
      · have hke : k = n := by omega
        have HF : Hid (ckN (wdB g a) = 0) := by
          have h1 := HK.out
          rw [List.take_of_length_le (by rw [HN.out]; omega)] at h1
          unfold Hid; rw [HW.out, h1]; rfl
        go_wp2
        go_ret
        exact ⟨ret_int HF.out.symm, rfl⟩
  · have e1 : (decide ((1 : Int) ≤ n) && decide ((n : Int) ≤ 16)) = false := by
      rw [Bool.eq_false_iff]; intro h; simp at h; omega
    rw [e1] at IW
    have HW : Hid (ckN (wdB g a) = 1) := by
      have : wdB g a = false := by
        rw [Bool.eq_false_iff]; intro h
        have := wdB_iff.1 h
        omega
      unfold Hid; rw [this]; rfl
    clear hA hr hn e1
    go_enter Try.func30, Try.ntmps30
    go_wp2_with (first | (go_at_call 48; refine (unhide IW).mono ?_; rintro e w0 ⟨rfl, hw0⟩; subst w0))
    go_ret
    exact ⟨ret_int HW.out.symm, rfl⟩

/-- Are two lists words of one width? -/
def alkB (g : List Gt) (a b : List Int) : Bool := decide (a.length = b.length) && wdB g a && wdB g b

set_option maxHeartbeats 1000000 in
theorem valike_any (ax bx : Option Addr) (ca cb : Nat) (a b : List Int) (n m : Nat) (hA : Gr w B M v g) (hn : a.length = n) (hm : b.length = m) (hr : Row w ax a) (hs : Row w bx b) (hl : n ≤ maxLen) (hlm : m ≤ maxLen) :
    Calls Try.prog 50 #[.pointer (some ⟨B, 0, none⟩), .slice ax n ca, .slice bx m cb] w fun e w' => e = .returned (.bool (alkB g a b)) ∧ w' = w := by
  have C1 := hide (vcheck_any w B M v g ax ca a n hA hn hr hl)
  have C2 := hide (vcheck_any w B M v g bx cb b m hA hm hs hlm)
  have hR : alkB g a b = (decide (n = m) && wdB g a && wdB g b) := by unfold alkB; rw [hn, hm]
  rw [hR]
  have CC : Hid (n = m → ∀ (ad : Option Addr) (c : Nat) (r : Int), (ad = ax ∧ c = ca ∧ r = ckN (wdB g a)) ∨ (ad = bx ∧ c = cb ∧ r = ckN (wdB g b)) → Calls Try.prog 30 #[.pointer (some ⟨B, 0, none⟩), .slice ad n c] w fun e w' => e = .returned (.int .i64 r) ∧ w' = w) := by
    rintro rfl ad c r (⟨rfl, rfl, rfl⟩ | ⟨rfl, rfl, rfl⟩)
    · exact C1.out
    · exact C2.out
  clear hA hn hm hr hs hR C1 C2
  unfold maxLen at hl hlm
  generalize wdB g a = x at *
  generalize wdB g b = y at *
  by_cases hnm : n = m
  · have CC' := hide (unhide CC hnm)
    subst hnm
    clear CC
    cases x
    · replace CC' : Hid (∀ (ad : Option Addr) (c : Nat) (r : Int), (ad = ax ∧ c = ca ∧ r = 1) ∨ (ad = bx ∧ c = cb ∧ r = ckN y) → Calls Try.prog 30 #[.pointer (some ⟨B, 0, none⟩), .slice ad n c] w fun e w' => e = .returned (.int .i64 r) ∧ w' = w) := CC'
      go_enter Try.func50, Try.ntmps50
      go_wp2_with (first
        | (go_at_call 30; refine (unhide CC' _ _ _ (by first | exact .inl ⟨rfl, rfl, rfl⟩ | exact .inr ⟨rfl, rfl, rfl⟩)).mono ?_; rintro e w0 ⟨rfl, hw0⟩; subst w0))
      go_ret
      exact ⟨ret_bool (by simp), rfl⟩
    · cases y
      · replace CC' : Hid (∀ (ad : Option Addr) (c : Nat) (r : Int), (ad = ax ∧ c = ca ∧ r = 0) ∨ (ad = bx ∧ c = cb ∧ r = 1) → Calls Try.prog 30 #[.pointer (some ⟨B, 0, none⟩), .slice ad n c] w fun e w' => e = .returned (.int .i64 r) ∧ w' = w) := CC'
        go_enter Try.func50, Try.ntmps50
        go_wp2_with (first
          | (go_at_call 30; refine (unhide CC' _ _ _ (by first | exact .inl ⟨rfl, rfl, rfl⟩ | exact .inr ⟨rfl, rfl, rfl⟩)).mono ?_; rintro e w0 ⟨rfl, hw0⟩; subst w0))
        go_ret
        exact ⟨ret_bool (by simp), rfl⟩
      · replace CC' : Hid (∀ (ad : Option Addr) (c : Nat) (r : Int), (ad = ax ∧ c = ca ∧ r = 0) ∨ (ad = bx ∧ c = cb ∧ r = 0) → Calls Try.prog 30 #[.pointer (some ⟨B, 0, none⟩), .slice ad n c] w fun e w' => e = .returned (.int .i64 r) ∧ w' = w) := CC'
        go_enter Try.func50, Try.ntmps50
        go_wp2_with (first
          | (go_at_call 30; refine (unhide CC' _ _ _ (by first | exact .inl ⟨rfl, rfl, rfl⟩ | exact .inr ⟨rfl, rfl, rfl⟩)).mono ?_; rintro e w0 ⟨rfl, hw0⟩; subst w0))
        go_ret
        exact ⟨ret_bool (by simp), rfl⟩
  · have hne : ((n : Int) == (m : Int)) = false := by simp; omega
    have hne2 : decide ((n : Int) = (m : Int)) = false := by simp; omega
    go_enter Try.func50, Try.ntmps50
    go_wp2
    go_ret
    exact ⟨ret_bool (by simp [hnm]), rfl⟩

end
end Go.Proofs.Ytbilhiklfficoaa
