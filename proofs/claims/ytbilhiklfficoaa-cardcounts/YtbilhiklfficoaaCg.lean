/- Contracts: how many literals are true; which lists are counted; a list's clone. -/
import Derived.Test.YtbilhiklfficoaaCf
import Derived.Test.YtbilhiklfficoaaXg
set_option linter.unusedVariables false
set_option linter.unusedSimpArgs false
namespace Go.Proofs.Ytbilhiklfficoaa
open Go.RowKit Go.Maps

theorem rx_own {w : World} {base q n c : Nat} {l : List Int} (h : w.ownsRow base 3 1 (.slice (some ⟨q, 0, none⟩) n c) n (l.map (Value.int .i64))) : n = l.length ∧ RX w (.slice (some ⟨q, 0, none⟩) n c) l ∧ base ≤ q := by
  have hl : (l.map (Value.int .i64)).length = n * 1 := h.1
  rw [List.length_map] at hl
  obtain rfl : n = l.length := by omega
  rcases h.2 with ⟨e, _⟩ | ⟨g', cap, cur, e, h1, h2, h3, h4, h5, h6⟩
  · simp at e
  · simp at e
    obtain ⟨rfl, rfl⟩ := e
    refine ⟨rfl, ?_, h1⟩
    cases c with
    | zero =>
      obtain rfl : l = [] := List.eq_nil_of_length_eq_zero (by omega)
      exact rx_nil _ _
    | succ c' =>
      refine .inr ⟨q, 0, c', cur, rfl, h3, h4, h2, by omega, fun i hi => ?_⟩
      have e1 : (l.map (Value.int .i64))[i]? = some (.int .i64 l[i]) := by rw [List.getElem?_map, List.getElem?_eq_getElem hi]; rfl
      rw [← h6, List.getElem?_take_of_lt (by omega)] at e1
      rw [Nat.zero_add]
      simpa using e1

section
variable (w : World)
/-- Whether literals are counted. -/
def mayL (g : List Gt) (l : List Int) : Bool := l.all (isB g) && decide (l.length ≤ 64)
theorem mayL_iff {g : List Gt} {l : List Int} : mayL g l = true ↔ (∀ k ∈ l, isB g k = true) ∧ l.length ≤ 64 := by simp [mayL]

set_option maxHeartbeats 1000000 in
theorem refMayL_any (al : Option Addr) (cap : Nat) (g : List Gt) (ax : Option Addr) (ca : Nat) (l : List Int) (hg : g.length ≤ 1000) (hr : Row w ax l) (hl : l.length ≤ 100) :
    Calls Try.prog 10 #[.slice al g.length cap, .slice ax l.length ca] w fun e w' => e = .returned (.bool (mayL g l)) ∧ w' = w := by
  have IS : Hid (∀ k : Int, Calls Try.prog 31 #[.slice al g.length cap, .int .i64 k] w fun e w' => e = .returned (.bool (isB g k)) ∧ w' = w) := fun k => refIs_any w al cap g k hg
  have HR := hide hr
  have HM : Hid (mayL g l = (l.all (isB g) && decide (l.length ≤ 64))) := rfl
  obtain ⟨m, hm⟩ : ∃ m, mayL g l = m := ⟨_, rfl⟩
  rw [hm] at HM ⊢
  clear hr hm
  go_enter Try.func10, Try.ntmps10
  go_wp2
  go_loopw [5] (fun i W => ∃ k : Nat, k ≤ l.length ∧ i = .int .i64 (k : Int) ∧ W = w ∧ Hid ((l.take k).all (isB g) = true)) (fun i _ => l.length - (intOf i).toNat)
  case atStart => exact ⟨0, Nat.zero_le _, rfl, rfl, rfl⟩
  case round =>
    obtain ⟨k, hk, rfl, rfl, HA⟩ := hrel
    by_cases hlt : k < l.length
    · obtain ⟨b, off, rfl, hb, hcell⟩ := HR.out k hlt
      have hx := unhide IS l[k]
      have HTK := hide (List.take_succ_eq_append_getElem hlt)
      have HMEM := hide (List.getElem_mem hlt)
      have hkl : (k : Int) < (l.length : Int) := by omega
      generalize l[k] = x at *
      replace hx := hide hx
      clear IS
      cases hq : isB g x with
      | true =>
        rw [hq] at hx
        go_wp2_with (go_at_call 31; refine (unhide hx).mono ?_; rintro e w' ⟨rfl, hw'⟩; subst w')
        go_roundw
        case rel => exact ⟨k + 1, by omega, by go_num, trivial, by unfold Hid; rw [HTK.out, List.all_append, HA.out]; simp [hq]⟩
        case measure => simp [intOf]; omega
      | false =>
        rw [hq] at hx
        have hF : m = false := by
          rw [HM.out]
          have : l.all (isB g) = false := by
            rw [List.all_eq_false]
            exact ⟨x, HMEM.out, by rw [hq]; simp⟩
          rw [this]; rfl
        subst hF
        clear HM HTK HMEM HR HA
        go_wp2_with (go_at_call 31; refine (unhide hx).mono ?_; rintro e w' ⟨rfl, hw'⟩; subst w')
        go_ret
        exact ⟨rfl, rfl⟩
    · obtain rfl : k = l.length := by omega
      have hall := HA.out
      rw [List.take_length] at hall
      have hF : m = decide (l.length ≤ 64) := by rw [HM.out, hall]; rfl
      subst hF
      clear HM hall
      go_wp2
      go_ret
      exact ⟨ret_bool (by rw [Bool.eq_iff_iff]; simp; omega), rfl⟩

set_option maxHeartbeats 2000000 in
theorem refCount_any (al ai : Option Addr) (cap ci : Nat) (g : List Gt) (ins : List Bool) (ax : Option Addr) (ca : Nat) (l : List Int) (hG : GS w al g) (hm : May g) (hg : g.length ≤ 1000) (hV : Vs w ai ins) (hi : ins.length ≤ maxLen) (hr : Row w ax l) (hl : l.length ≤ 100) (hk : ∀ k ∈ l, isB g k = true) :
    Calls Try.prog 15 #[.slice al g.length cap, .slice ai ins.length ci, .slice ax l.length ca] w fun e w' => e = .returned (.int .i64 (cntT (bitsW ins g l) : Nat)) ∧ Below w.heap.size w w' := by
  have TR : Hid (∀ (W : World) (x : Int), isB g x = true → Below w.heap.size w W → Calls Try.prog 36 #[.slice al g.length cap, .slice ai ins.length ci, .int .i64 x] W fun e w' => e = .returned (.bool (valF (allV ins g) x)) ∧ Below W.heap.size W w') := fun W x hx hb => refTrue_any (x.toNat + 1) W al ai cap ci g ins x (by omega) hx (hG.below hb) hm hg (hV.below hb) hi
  have HR := hide hr
  have HK := hide hk
  clear hG hm hV hr hk
  go_enter Try.func15, Try.ntmps15
  go_wp2
  go_loopw [7, 8] (fun c i W => ∃ k : Nat, k ≤ l.length ∧ i = .int .i64 (k : Int) ∧ c = .int .i64 (cntT (bitsW ins g (l.take k)) : Nat) ∧ Hid (Below w.heap.size w W)) (fun _ i _ => l.length - (intOf i).toNat)
  case atStart => exact ⟨0, Nat.zero_le _, rfl, rfl, Below.refl _ _⟩
  case round =>
    obtain ⟨k, hk, rfl, rfl, HB⟩ := hrel
    have hc1 : cntT (bitsW ins g (l.take k)) ≤ 100 := by have := cntT_le (bitsW ins g (l.take k)); rw [bitsW_len] at this; simp at this; omega
    by_cases hlt : k < l.length
    · obtain ⟨b, off, rfl, hb, hcell⟩ := (HR.out.below HB.out) k hlt
      have hx := unhide TR wr l[k] (HK.out _ (List.getElem_mem hlt)) HB.out
      have HTK : Hid (cntT (bitsW ins g (l.take (k + 1))) = cntT (bitsW ins g (l.take k)) + b2n (valF (allV ins g) l[k])) := by
        unfold Hid
        rw [List.take_succ_eq_append_getElem hlt]
        unfold bitsW
        rw [List.map_append, List.map_singleton, cntT_snoc]
      have hkl : (k : Int) < (l.length : Int) := by omega
      generalize l[k] = x at *
      generalize cntT (bitsW ins g (l.take k)) = c at *
      replace hx := hide hx
      cases hq : valF (allV ins g) x with
      | true =>
        rw [hq] at hx HTK
        have hcn : cntT (bitsW ins g (l.take (k + 1))) = c + 1 := HTK
        go_wp2_with (go_at_call 36; refine (unhide hx).mono ?_; rintro e w1 ⟨rfl, hb1⟩)
        go_roundw
        case rel => exact ⟨k + 1, by omega, by go_num, by rw [hcn]; go_num, HB.out.trans (hb1.mono HB.out.size)⟩
        case measure => simp [intOf]; omega
      | false =>
        rw [hq] at hx HTK
        have hcn : cntT (bitsW ins g (l.take (k + 1))) = c := HTK
        go_wp2_with (go_at_call 36; refine (unhide hx).mono ?_; rintro e w1 ⟨rfl, hb1⟩)
        go_roundw
        case rel => exact ⟨k + 1, by omega, by go_num, by rw [hcn], HB.out.trans (hb1.mono HB.out.size)⟩
        case measure => simp [intOf]; omega
    · obtain rfl : k = l.length := by omega
      have HB' := HB
      rw [List.take_length]
      obtain ⟨c, hc⟩ : ∃ c, cntT (bitsW ins g l) = c := ⟨_, rfl⟩
      have HC := hide hc
      rw [hc]
      clear hc
      go_wp2
      go_ret
      exact ⟨by rw [HC.out]; rfl, HB'.out⟩

set_option maxHeartbeats 1000000 in
theorem isCounted_any (B M : Nat) (v : Value) (g : List Gt) (ax : Option Addr) (ca : Nat) (l : List Int) (hA : Gr w B M v g) (hr : Row w ax l) (hl : l.length ≤ 100) :
    Calls Try.prog 27 #[.pointer (some ⟨B, 0, none⟩), .slice ax l.length ca] w fun e w' => e = .returned (.bool (mayL g l)) ∧ w' = w := by
  have IS : Hid (∀ k : Int, Calls Try.prog 46 #[.pointer (some ⟨B, 0, none⟩), .int .i64 k] w fun e w' => e = .returned (.bool (isB g k)) ∧ w' = w) := fun k => isLit_any w B M v g k hA
  have IZ := unhide IS 0
  rw [(lt_zero g).1] at IZ
  replace IZ := hide IZ
  have HR := hide hr
  have HM : Hid (mayL g l = (l.all (isB g) && decide (l.length ≤ 64))) := rfl
  obtain ⟨m, hm⟩ : ∃ m, mayL g l = m := ⟨_, rfl⟩
  rw [hm] at HM ⊢
  clear hr hm hA
  by_cases h64 : 64 < l.length
  · have hF : m = false := by rw [HM.out]; simp; omega
    subst hF
    have hd : decide ((64 : Int) < (l.length : Int)) = true := by simp; omega
    clear HM IS
    go_enter Try.func27, Try.ntmps27
    go_wp2
    go_ret
    exact ⟨rfl, rfl⟩
  · have hd : decide ((64 : Int) < (l.length : Int)) = false := by simp; omega
    have hF : m = l.all (isB g) := by rw [HM.out, show decide (l.length ≤ 64) = true by simp; omega, Bool.and_true]
    replace hF := hide hF
    clear HM
    go_enter Try.func27, Try.ntmps27
    go_wp2_with (go_at_call 46; refine (unhide IZ).mono ?_; rintro e w' ⟨rfl, hw'⟩; subst w')
    clear IZ
    go_loopw [17] (fun i W => ∃ k : Nat, k ≤ l.length ∧ i = .int .i64 (k : Int) ∧ W = w ∧ Hid ((l.take k).all (isB g) = true)) (fun i _ => l.length - (intOf i).toNat)
    case atStart => exact ⟨0, Nat.zero_le _, rfl, rfl, rfl⟩
    case round =>
      obtain ⟨k, hk, rfl, rfl, HA⟩ := hrel
      by_cases hlt : k < l.length
      · obtain ⟨b, off, rfl, hb, hcell⟩ := HR.out k hlt
        have hx := unhide IS l[k]
        have HTK := hide (List.take_succ_eq_append_getElem hlt)
        have HMEM := hide (List.getElem_mem hlt)
        have hkl : (k : Int) < (l.length : Int) := by omega
        generalize l[k] = x at *
        replace hx := hide hx
        clear IS
        cases hq : isB g x with
        | true =>
          rw [hq] at hx
          go_wp2_with (go_at_call 46; refine (unhide hx).mono ?_; rintro e w' ⟨rfl, hw'⟩; subst w')
          go_roundw
          case rel => exact ⟨k + 1, by omega, by go_num, trivial, by unfold Hid; rw [HTK.out, List.all_append, HA.out]; simp [hq]⟩
          case measure => simp [intOf]; omega
        | false =>
          rw [hq] at hx
          have hF' : m = false := by
            rw [hF.out, List.all_eq_false]
            exact ⟨x, HMEM.out, by rw [hq]; simp⟩
          subst hF'
          clear hF HTK HMEM HR HA
          go_wp2_with (go_at_call 46; refine (unhide hx).mono ?_; rintro e w' ⟨rfl, hw'⟩; subst w')
          go_ret
          exact ⟨rfl, rfl⟩
      · obtain rfl : k = l.length := by omega
        have hall := HA.out
        rw [List.take_length, ← hF.out] at hall
        subst hall
        clear hF HA
        go_wp2
        go_ret
        exact ⟨rfl, rfl⟩

/-- What a clone is. -/
def CloneI (w : World) (l : List Int) (e : Ending) (w' : World) : Prop :=
  ∃ a c, e = .returned (.slice a l.length c) ∧ RX w' (.slice a l.length c) l ∧ Below w.heap.size w w' ∧ ∀ b, blkX (.slice a l.length c) = some b → w.heap.size ≤ b
set_option maxHeartbeats 1000000 in
theorem cloneI_any (al : Option Addr) (cap : Nat) (l : List Int) (hr : Row w al l) (hf : al = none → l = []) (hl : l.length ≤ 100) : Calls Try.prog 28 #[.slice al l.length cap] w (CloneI w l) := by
  have q24 : ∀ (w : World) (a : Option Addr) (n c n' c' : Nat), (binOp .eql 24 (.slice a n c) (.slice none n' c')).run Try.prog w = .ok (.bool a.isNone) w := fun w a n c n' c' => Lib.run_eql_slice_nil w _ _ a n c n' c' Try.underlying24
  cases al with
  | none =>
    obtain rfl := hf rfl
    go_enter Try.func28, Try.ntmps28
    go_wp2
    go_ret
    exact ⟨none, 0, rfl, rx_nil _ _, Below.refl _ _, fun b e => by cases e⟩
  | some ad =>
    obtain ⟨i0, hi0, hz0, hz1, hz2⟩ := info_parts Try.info3
    have hb0 := below_alloc w (.cells #[] 3)
    have hnews : ∀ j u, (l.map (Value.int .i64))[j]? = some u → (w.alloc (.cells #[] 3)).cell? (ad.add j) = some u := by
      intro j u hu
      rw [List.getElem?_map] at hu
      obtain ⟨z, hz, rfl⟩ := Option.map_eq_some_iff.1 hu
      obtain ⟨hj, hz'⟩ := List.getElem?_eq_some_iff.1 hz
      obtain ⟨b, off, e, hb, hc⟩ := (hr.below hb0) j hj
      cases e
      rw [Addr.add_lit, ← hz']; exact hc
    have h1c : ∀ u ∈ l.map (Value.int .i64), u.oneCell' = true := by
      intro u hu
      obtain ⟨z, _, rfl⟩ := List.mem_map.1 hu
      rfl
    have HL : Hid ((l.map (Value.int .i64)).length = l.length * 1) := by unfold Hid; simp
    clear hr hf
    go_enter Try.func28, Try.ntmps28
    go_wp2_with (at_builtin; refine wpList_append_own_at _ rfl _ _ 24 rfl w.heap.size 3 i0 (.int .i64 0) 1 8 Try.underlying24 hi0 hz0 hz1 hz2 rfl (by decide) _ 0 [] rfl (lit0 w 3 1) ad l.length cap (l.map (Value.int .i64)) rfl HL.out hnews h1c (by unfold maxLen; omega) (by omega) (by simp) ?_; intro v1 w1 hown1 hgrow1 hnil1 hat1)
    have hv1 : v1 ≠ .slice none 0 0 := fun e => by have := (hnil1.1 e).1; cases this
    rcases hown1.2 with ⟨h0, _⟩ | ⟨q, c, cur, rfl, hb, hg, rest⟩
    · exact absurd h0 hv1
    · go_wp2
      rw [List.nil_append] at hown1
      simp only [Nat.zero_add] at hown1
      obtain ⟨e1, e2, e3⟩ := rx_own hown1
      have hbel : Below w.heap.size w w1 := hb0.grown hgrow1 (by simp) (by intro k hk; cases hk; exact Nat.le_refl _)
      go_ret
      refine ⟨some ⟨q, 0, none⟩, c, by simp, e2, hbel, fun b e => ?_⟩
      cases c with
      | zero => cases e
      | succ c => cases e; exact e3
end
end Go.Proofs.Ytbilhiklfficoaa
