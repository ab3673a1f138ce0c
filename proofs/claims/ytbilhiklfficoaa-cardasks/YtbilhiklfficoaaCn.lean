/- The law of one. -/
import Derived.Test.YtbilhiklfficoaaCm
set_option linter.unusedVariables false
set_option linter.unusedSimpArgs false
namespace Go.Proofs.Ytbilhiklfficoaa
open Go.RowKit Go.Maps

/-- Whether each of the first clauses has a literal that is true. -/
def allP (g : List Gt) (ins : List Bool) (css : List (List Int)) : Bool := css.all fun c => decide (0 < cntT (bitsW ins g c))
theorem allP_take {g : List Gt} {ins : List Bool} {css : List (List Int)} {k : Nat} (h : k < css.length) : allP g ins (css.take (k + 1)) = (allP g ins (css.take k) && decide (0 < cntT (bitsW ins g css[k]))) := by
  unfold allP
  rw [List.take_succ_eq_append_getElem h, List.all_append, List.all_cons, List.all_nil, Bool.and_true]
theorem allP_one {g : List Gt} {ins : List Bool} {l : List Int} (h : ∀ k ∈ l, isB g k = true) : allP g ins (oneF l) = decide (cntT (bitsW ins g l) = 1) := by
  have h1 := one_one (valF (allV ins g)) l (fun k hk => val_nots (h k hk))
  rw [Bool.eq_iff_iff, decide_eq_true_eq]
  unfold allP
  rw [List.all_eq_true]
  simp only [decide_eq_true_eq]
  exact h1

section
variable (w : World)
set_option maxHeartbeats 4000000 in
set_option maxRecDepth 100000 in
theorem oneL_any (ag ai ax : Option Addr) (cg ci ca : Nat) (g : List Gt) (ins : List Bool) (l : List Int) (hg : GS w ag g) (hfg : ag = none → g = [] ∧ cg = 0) (hgl : g.length ≤ maxLen) (hi : Vs w ai ins) (hil : ins.length ≤ maxLen) (hr : Row w ax l) (hf : ax = none → l = [] ∧ ca = 0) (hca : l.length ≤ ca) (hal : l.length ≤ maxLen) :
    Calls Try.prog 5 #[.slice ag g.length cg, .slice ai ins.length ci, .slice ax l.length ca] w fun e w' => e = .returned (.bool true) ∧ Below w.heap.size w w' := by
  have AW : Hid (∀ W, Calls Try.prog 8 #[] W fun e w' => e = .returned (.bool true) ∧ Below W.heap.size W w') := fun W => awake_any W
  by_cases hin : g.length ≤ 12 ∧ l.length ≤ 100 ∧ May g
  · obtain ⟨hg12, hl100, hmay⟩ := hin
    have BG := hide (begin_yes w ag ax cg ca g l hg hfg hg12 hl100 hmay)
    have RM : Hid (∀ W, Below w.heap.size w W → Calls Try.prog 10 #[.slice ag g.length cg, .slice ax l.length ca] W fun e w' => e = .returned (.bool (mayL g l)) ∧ w' = W) := fun W hb => refMayL_any W ag cg g ax ca l (by omega) (hr.below hb) hl100
    cases hm : mayL g l with
    | false =>
      rw [hm] at RM
      have CN : Hid (∀ W B M v, Gr W B M v g → Below w.heap.size w W → Calls Try.prog 20 #[.pointer (some ⟨B, 0, none⟩), .slice ax l.length ca] W fun e w' => e = .returned (.slice none 0 0) ∧ w' = W) := fun W B M v h hb => one_no W B M v g ax ca l h (hr.below hb) hl100 hm
      clear hg hfg hi hr hf hm hmay
      generalize l.length = n at *
      generalize g.length = gl at *
      generalize ins.length = il at *
      go_enter Try.func5, Try.ntmps5
      go_wp2_with (first
        | (go_at_call 7; refine (unhide BG).mono ?_; rintro e w1 ⟨B, M, v, rfl, hG, hb1, hlo⟩)
        | (go_at_call 20; refine (unhide CN _ _ _ _ hG hb1).mono ?_; rintro e w' ⟨rfl, hw'⟩; subst w')
        | (go_at_call 10; refine (unhide RM _ hb1).mono ?_; rintro e w' ⟨rfl, hw'⟩; subst w')
        | (go_at_call 8; refine (unhide AW _).mono ?_; rintro e w2 ⟨rfl, hb2⟩))
      go_ret
      exact ⟨rfl, hb1.trans (hb2.mono hb1.size)⟩
    | true =>
      rw [hm] at RM
      have hm2 := mayL_iff.1 hm
      obtain ⟨n, hn⟩ : ∃ n, l.length = n := ⟨_, rfl⟩
      have h64 : n ≤ 64 := by omega
      have CN : Hid (∀ W B M v, Gr W B M v g → Below w.heap.size w W → Calls Try.prog 20 #[.pointer (some ⟨B, 0, none⟩), .slice ax n ca] W (OneP W l)) := fun W B M v h hb => one_yes W B M v g ax ca l n h hn (hr.below hb) (by omega) hf hm
      obtain ⟨N, hN⟩ : ∃ N, cntT (bitsW ins g l) = N := ⟨_, rfl⟩
      have TR : Hid (∀ W, Below w.heap.size w W → Calls Try.prog 15 #[.slice ag g.length cg, .slice ai ins.length ci, .slice ax n ca] W fun e w' => e = .returned (.int .i64 (N : Int)) ∧ Below W.heap.size W w') := fun W hb => by
        have h := refCount_any W ag ai cg ci g ins ax ca l (hg.below hb) hmay (by omega) (hi.below hb) hil (hr.below hb) hl100 hm2.1
        rwa [hN, hn] at h
      have TC : Hid (∀ W (c : List Int) ay cy, Below w.heap.size w W → c ∈ oneF l → Row W ay c → Calls Try.prog 15 #[.slice ag g.length cg, .slice ai ins.length ci, .slice ay c.length cy] W fun e w' => e = .returned (.int .i64 (cntT (bitsW ins g c) : Nat)) ∧ Below W.heap.size W w') := fun W c ay cy hb hc hrc =>
        refCount_any W ag ai cg ci g ins ay cy c (hg.below hb) hmay (by omega) (hi.below hb) hil hrc (by have := one_short c hc; omega) (one_lit hm2.1 c hc)
      have HALL := hide (allP_one (ins := ins) hm2.1)
      rw [hN] at HALL
      have HOL : Hid ((oneF l).length ≤ 5000) := by
        have := pairs_len l
        have h2 : l.length * l.length ≤ 64 * 64 := Nat.mul_le_mul (by omega) (by omega)
        unfold Hid oneF; simp; omega
      have HBN : Hid (∀ c ∈ oneF l, cntT (bitsW ins g c) ≤ 200) := fun c hc => by
        have h1 := cntT_le (bitsW ins g c)
        have h2 := one_short c hc
        rw [bitsW_len] at h1; omega
      rw [hn] at RM BG ⊢
      clear hg hfg hi hr hf hm hm2 hmay hn hN hca
      have LN : Hid (∀ W B M v, Gr W B M v g → Calls Try.prog 21 #[.pointer (some ⟨B, 0, none⟩)] W fun e w' => e = .returned (.int .i64 (g.length : Int)) ∧ w' = W) := fun W B M v h => len_any W B M v g h
      obtain ⟨gl, hgle⟩ : ∃ gl, g.length = gl := ⟨_, rfl⟩
      rw [hgle] at hgl hg12 BG RM TR TC LN ⊢
      clear hgle
      obtain ⟨il, hile⟩ : ∃ il, ins.length = il := ⟨_, rfl⟩
      rw [hile] at hil TR TC ⊢
      clear hile
      go_enter Try.func5, Try.ntmps5
      go_upto_region 7 with (first
        | (go_at_call 7; refine (unhide BG).mono ?_; rintro e w1 ⟨B, M, v, rfl, hG, hb1, hlo⟩)
        | (go_at_call 20; refine (unhide CN _ _ _ _ hG hb1).mono ?_; rintro e w2 ⟨ov, rfl, hO, hb2⟩; have hb3 := hb1.trans (hb2.mono hb1.size))
        | (go_at_call 10; refine (unhide RM _ hb3).mono ?_; rintro e w' ⟨rfl, hw'⟩; subst w'))
      obtain ⟨oa, oc, rfl, hat⟩ := hO.at
      have HAT : Hid (∀ W, Below w2.heap.size w2 W → ∀ i (hi : i < (oneF l).length), ∃ b ai ci, oa = some ⟨b, 0, none⟩ ∧ b < W.heap.size ∧ W.cell? ⟨b, i, none⟩ = some (.slice ai (oneF l)[i].length ci) ∧ Row W ai (oneF l)[i]) := fun W hb i hi => by
        obtain ⟨b, ai, ci, e, h1, h2, h3⟩ := hat i hi
        exact ⟨b, ai, ci, e, Nat.lt_of_lt_of_le h1 hb.size, (World.cell?_of_block (hb.block b h1)).trans h2, h3.below hb⟩
      have HG2 := hide (hG.below hb2)
      have HB3 := hide hb3
      clear hat hO hG hb1 hb2 hb3 hlo BG CN RM
      have HMEM : Hid (∀ i (hi : i < (oneF l).length), (oneF l)[i] ∈ oneF l) := fun i hi => List.getElem_mem hi
      obtain ⟨css, hcss⟩ : ∃ css, oneF l = css := ⟨_, rfl⟩
      rw [hcss] at HAT HALL HOL HMEM TC HBN ⊢
      obtain ⟨cl, hcl⟩ : ∃ cl, css.length = cl := ⟨_, rfl⟩
      have HCL := hide hcl
      have hcl5 : cl ≤ 5000 := hcl ▸ HOL.out
      rw [hcl]
      clear hcss hcl
      go_wp2
      go_loopw [10, 11] (fun a i W => ∃ k : Nat, k ≤ cl ∧ i = .int .i64 (k : Int) ∧ a = .bool (allP g ins (css.take k)) ∧ Hid (Below w2.heap.size w2 W)) (fun _ i _ => cl - (intOf i).toNat)
      case atStart => exact ⟨0, Nat.zero_le _, rfl, rfl, Below.refl _ _⟩
      case round =>
        obtain ⟨k, hk, rfl, rfl, HB⟩ := hrel
        by_cases hlt : k < cl
        · have hkc : k < css.length := by rw [HCL.out]; exact hlt
          obtain ⟨b, ay, cy, rfl, hb, hcell, hrow⟩ := HAT.out wr HB.out k hkc
          have HTK := hide (allP_take (g := g) (ins := ins) hkc)
          have hbw : Below w.heap.size w wr := HB3.out.trans (HB.out.mono HB3.out.size)
          have T1 := hide (unhide TC wr css[k] ay cy hbw (HMEM.out k hkc) hrow)
          have hcn := HBN.out _ (HMEM.out k hkc)
          have hkl : (k : Int) < (cl : Int) := by omega
          clear hbw hrow
          generalize css[k].length = rl at *
          generalize cntT (bitsW ins g css[k]) = c at *
          cases hq : allP g ins (css.take k) with
          | true =>
            rw [hq] at HTK
            by_cases h0 : 0 < c
            · have e1 : allP g ins (css.take (k + 1)) = true := by rw [HTK.out]; simpa using h0
              have hc0 : decide ((0 : Int) < (c : Int)) = true := by simp; omega
              go_wp2_with (go_at_call 15; refine (unhide T1).mono ?_; rintro e w3 ⟨rfl, hb3⟩)
              go_roundw
              case rel => exact ⟨k + 1, by omega, by go_num, by rw [e1], HB.out.trans (hb3.mono HB.out.size)⟩
              case measure => simp [intOf]; omega
            · have e1 : allP g ins (css.take (k + 1)) = false := by rw [HTK.out]; simpa using h0
              have hc0 : decide ((0 : Int) < (c : Int)) = false := by simp; omega
              go_wp2_with (go_at_call 15; refine (unhide T1).mono ?_; rintro e w3 ⟨rfl, hb3⟩)
              go_roundw
              case rel => exact ⟨k + 1, by omega, by go_num, by rw [e1], HB.out.trans (hb3.mono HB.out.size)⟩
              case measure => simp [intOf]; omega
          | false =>
            rw [hq] at HTK
            have e1 : allP g ins (css.take (k + 1)) = false := by rw [HTK.out]; rfl
            go_wp2
            go_roundw
            case rel => exact ⟨k + 1, by omega, by go_num, by rw [e1], HB⟩
            case measure => simp [intOf]; omega
        · obtain rfl : k = cl := by omega
          have e1 : allP g ins (css.take k) = decide (N = 1) := by rw [List.take_of_length_le (by rw [HCL.out]; exact Nat.le_refl _)]; exact HALL.out
          have hbw : Below w.heap.size w wr := HB3.out.trans (HB.out.mono HB3.out.size)
          have hN1 : ((N : Int) == 1) = decide (N = 1) := by rw [Bool.eq_iff_iff]; simp; omega
          rw [e1]
          generalize decide (N = 1) = d at *
          have T2 := hide (unhide TR wr hbw)
          have HGW := hide (HG2.out.below HB.out)
          have HBW := hide hbw
          clear hbw TC e1
          go_wp2_with (first
            | (go_at_call 15; refine (unhide T2).mono ?_; rintro e w3 ⟨rfl, hb3⟩)
            | (go_at_call 21; refine (unhide LN _ _ _ _ (HGW.out.below hb3)).mono ?_; rintro e w' ⟨rfl, hw'⟩; subst w')
            | (go_at_call 8; refine (unhide AW _).mono ?_; rintro e w4 ⟨rfl, hb4⟩))
          go_ret
          exact ⟨rfl, HBW.out.trans ((hb3.trans (hb4.mono hb3.size)).mono HBW.out.size)⟩
  · have BG := hide (begin_no w ag ax cg ca g l hg hgl hal (by
      by_cases h1 : 12 < g.length
      · exact .inl h1
      by_cases h2 : 100 < l.length
      · exact .inr (.inl h2)
      exact .inr (.inr fun h => hin ⟨by omega, by omega, h⟩)))
    clear hg hfg hi hr hf hin hca
    unfold maxLen at hgl hal hil
    generalize l.length = n at *
    generalize g.length = gl at *
    generalize ins.length = il at *
    go_enter Try.func5, Try.ntmps5
    go_wp2_with (first
      | (go_at_call 7; refine (unhide BG).mono ?_; rintro e w1 ⟨rfl, hb1⟩)
      | (go_at_call 8; refine (unhide AW _).mono ?_; rintro e w2 ⟨rfl, hb2⟩))
    go_ret
    exact ⟨rfl, hb1.trans (hb2.mono hb1.size)⟩
end
end Go.Proofs.Ytbilhiklfficoaa
