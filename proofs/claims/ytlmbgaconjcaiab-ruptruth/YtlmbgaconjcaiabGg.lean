/- Contracts: a late clause is settled. -/
import Derived.Test.YtlmbgaconjcaiabGf
import Derived.Test.YtlmbgaconjcaiabPlainJ
set_option linter.unusedVariables false
set_option linter.unusedSimpArgs false
namespace Go.Proofs.Ytlmbgaconjcaiab
open Go.RowKit

/-- What a call that settles leaves: other slices, the same blocks of clauses. -/
def Left (ρ : Nat → Rl) (w : World) (B : Nat) (H : Hd) (t : PS) (w' : World) : Prop := ∃ ρ' H', Rep ρ' w' B H' t ∧ H'.cb = H.cb ∧ Ev ρ w ρ' w'

theorem Left.trans {ρ ρ1 : Nat → Rl} {w w1 w' : World} {B : Nat} {H H1 : Hd} {t : PS} (hE : Ev ρ w ρ1 w1) (hc : H1.cb = H.cb) (h : Left ρ1 w1 B H1 t w') : Left ρ w B H t w' := by
  obtain ⟨ρ', H', h1, h2, h3⟩ := h
  exact ⟨ρ', H', h1, h2.trans hc, hE.trans h3⟩

section
variable {ρ : Nat → Rl} {w : World} {B : Nat} {H : Hd} {s : PS}

/-- The last level's late clauses. -/
theorem Rep.lvLast (h : Rep ρ w B H s) {k : Nat} {p : Lv} (hp : s.lvs[k]? = some p) : ∃ gl cap u, H.lv = .slice (some ⟨gl, 0, none⟩) s.lvs.length cap ∧ H.lv.ownBlock = some gl ∧ H.lr[k]? = some u ∧ w.cell? ⟨gl, k * 3, none⟩ = some (.int .i64 p.start) ∧ w.cell? ⟨gl, k * 3 + 1, none⟩ = some (.int .i64 p.head) ∧ w.cell? ⟨gl, k * 3 + 2, none⟩ = some u ∧ (∀ i, w.frozen? ⟨gl, i, none⟩ = false) ∧ w.ownsRow 0 80 1 u p.late.length (ptrsC H.cb p.late) ∧ gl ≠ B ∧ (∀ g, u.ownBlock = some g → g ≠ B ∧ g ≠ gl) ∧ gl < w.heap.size ∧ s.lvs.length ≤ cap ∧ cap ≤ maxLen := by
  have hk : k < s.lvs.length := (List.getElem?_eq_some_iff.1 hp).1
  obtain ⟨u, hu⟩ : ∃ u, H.lr[k]? = some u := ⟨_, List.getElem?_eq_getElem (by rw [h.lr]; exact hk)⟩
  obtain ⟨g, cap, e, hg, hn, hm, hs, hB, hc, hf⟩ := h.row (r := (9, 0)) rfl (by decide) (by simp only; omega)
  have hr : ents B H s (10, k) = some ⟨80, 1, u, p.late.length, ptrsC H.cb p.late⟩ := by simp only [ents, hp, hu, lvlE]
  have hgt := lvsC_get s.lvs H.lr k p u hp hu
  exact ⟨g, cap, u, e, hg, hu, hc _ _ hgt.1, hc _ _ hgt.2.1, hc _ _ hgt.2.2, hf, h.hold.own _ _ hr, hB, fun k' hk' => ⟨h.hold.ne hr hk' (q := (0, 0)) rfl rfl (by simp), h.hold.ne hr hk' (q := (9, 0)) rfl hg (by simp)⟩, hs, hn, hm⟩

theorem drewN_add (w : World) (m n : Nat) : (w.drewN m).drewN n = w.drewN (m + n) := by
  simp [World.drewN, Nat.add_assoc]

theorem scan_cons (v : Int → Int) (l : Int) (r : List Int) (left : Int) : scan v (l :: r) left = if v l < 0 ∨ l = left then scan v r left else if left ≠ 0 then (true, left) else scan v r l := rfl

set_option maxHeartbeats 4000000 in
set_option maxRecDepth 100000 in
theorem settle_any (h : Rep ρ w B H s) (hS : Shp s) (hM : Small s) (i : Nat) (c : Cl) (hc : s.cls[i]? = some c) (hl : ∀ x ∈ c.lits, Lt s.vars x) :
    Calls Try.prog 80 #[.pointer (some ⟨B, 0, none⟩), .pointer (some ⟨H.cb i, 0, none⟩)] w fun e w' => e = .returned (.bool (s.settle i c.lits).1) ∧ Left ρ w B H (s.settle i c.lits).2 w' := by
  have hV := hS.vars
  obtain ⟨o0, o1, _, _, _, _, hol, hoB⟩ := h.obj hc
  obtain ⟨a, cap, er, hrow, hrm, _⟩ := h.lits hc
  have hil : i < s.cls.length := (List.getElem?_eq_some_iff.1 hc).1
  have hi1 := hM.cls
  rw [er] at o1
  have VV := fun (x : Int) (hx : Lt s.vars x) (m : Nat) => hide (value_any (h.drewN m) x hx (by omega) hS.vals)
  have hcl := hM.lits c (List.mem_of_getElem? hc)
  have HH := hide h
  have HC := hide hc
  have HS := hide hS
  have HM := hide hM
  have HSE : Hid (s.settle i c.lits = (match scan s.val c.lits 0 with | (true, _) => (true, s) | (false, left) => if left = 0 then (false, s) else (true, if (if s.val left = 0 then s.put left i else s).lvs.length = 0 then (if s.val left = 0 then s.put left i else s) else (if s.val left = 0 then s.put left i else s).lateLv i))) := rfl
  have h0 : ∀ x ∈ c.lits, x ≠ 0 := fun x hx => (hl x hx).1
  clear h hc hS hM er
  generalize hb : H.cb i = b at *
  generalize c.lits = ls at *
  go_enter Try.func80, Try.ntmps80
  go_wp2
  go_loopw [5, 14] (fun f j wr => ∃ (k m : Nat) (left : Int), k ≤ ls.length ∧ j = .int .i64 k ∧ f = .int .i64 left ∧ (left = 0 ∨ Lt s.vars left) ∧ Hid (scan s.val (ls.drop k) left = scan s.val ls 0) ∧ wr = w.drewN m) (fun _ j _ => ls.length - (intOf j).toNat)
  case atStart => exact ⟨0, 0, 0, Nat.zero_le _, rfl, rfl, .inl rfl, rfl, rfl⟩
  case round =>
    obtain ⟨k, m, left, hk, rfl, rfl, hleft, HSC, rfl⟩ := hrel
    by_cases hlt : k < ls.length
    · obtain ⟨bb, off, rfl, hbb, hcell⟩ := hrow k hlt
      have hx := hl ls[k] (List.getElem_mem hlt)
      have hki : (k : Int) < ls.length := by omega
      have HD : Hid (ls.drop k = ls[k] :: ls.drop (k + 1)) := List.drop_eq_getElem_cons hlt
      have hvb := HS.out.val ls[k]
      have VX := VV ls[k] hx
      have HSC2 := HSC.out
      rw [HD.out, scan_cons] at HSC2
      clear hrow hl
      generalize ls[k] = x at *
      by_cases hA : s.val x < 0 ∨ x = left
      · rw [if_pos hA] at HSC2
        replace HSC2 := hide HSC2
        by_cases hA1 : s.val x < 0
        · clear hA
          generalize s.val x = y at *
          go_wp2_with (go_at_call 50; refine (unhide (VX _)).mono ?_; rintro e w1 ⟨rfl, n1, rfl⟩)
          go_roundw
          case rel => exact ⟨k + 1, m + n1, left, by omega, by go_num, rfl, hleft, HSC2, rfl⟩
          case measure => simp [intOf]; omega
        · have hA2 : (x == left) = true := by simpa using hA.resolve_left hA1
          clear hA
          generalize s.val x = y at *
          go_wp2_with (go_at_call 50; refine (unhide (VX _)).mono ?_; rintro e w1 ⟨rfl, n1, rfl⟩)
          go_roundw
          case rel => exact ⟨k + 1, m + n1, left, by omega, by go_num, rfl, hleft, HSC2, rfl⟩
          case measure => simp [intOf]; omega
      · have hA1 : ¬ s.val x < 0 := fun e => hA (.inl e)
        have hA2 : (x == left) = false := by simp; exact fun e => hA (.inr e)
        rw [if_neg hA] at HSC2
        by_cases hB : left = 0
        · rw [if_neg (by simpa using hB)] at HSC2
          replace HSC2 := hide HSC2
          subst hB
          clear hA hleft
          generalize s.val x = y at *
          go_wp2_with (go_at_call 50; refine (unhide (VX _)).mono ?_; rintro e w1 ⟨rfl, n1, rfl⟩)
          go_roundw
          case rel => exact ⟨k + 1, m + n1, x, by omega, by go_num, rfl, .inr hx, HSC2, rfl⟩
          case measure => simp [intOf]; omega
        · rw [if_pos hB] at HSC2
          have hB' : (left != 0) = true := by simp [hB]
          have HSE2 := HSE.out
          rw [← HSC2] at HSE2
          simp only at HSE2
          replace HSE2 := hide HSE2
          clear hA HSC2 HSE
          generalize s.val x = y at *
          go_wp2_with (go_at_call 50; refine (unhide (VX _)).mono ?_; rintro e w1 ⟨rfl, n1, rfl⟩)
          go_ret
          rw [HSE2.out]
          exact ⟨rfl, ρ, H, HH.out.drewN _, rfl, Ev.drewN _ _ _⟩
    · have hkl : ls.drop k = [] := List.drop_eq_nil_of_le (by omega)
      have HSC2 := HSC.out
      rw [hkl] at HSC2
      change (false, left) = _ at HSC2
      have HSE2 := HSE.out
      rw [← HSC2] at HSE2
      simp only at HSE2
      clear hrow hl HSC HSC2 HSE hkl
      by_cases hL : left = 0
      · rw [if_pos hL] at HSE2
        have hL' : (left == 0) = true := by simp [hL]
        replace HSE2 := hide HSE2
        clear VV
        go_wp2
        go_ret
        rw [HSE2.out]
        exact ⟨rfl, ρ, H, HH.out.drewN _, rfl, Ev.drewN _ _ _⟩
      · rw [if_neg hL] at HSE2
        have hL' : (left == 0) = false := by simp [hL]
        have hLt := hleft.resolve_left hL
        have VX := VV left hLt m
        clear VV
        by_cases hv : s.val left = 0
        · rw [if_pos hv] at HSE2
          have hv' : s.val left = 0 := hv
          generalize hy : s.val left = y at *
          subst hv
          go_wp2_with fail
          refine (unhide VX).mono ?_
          rintro e w1 ⟨rfl, n1, rfl⟩
          have o0' : (w.drewN (m + n1)).cell? ⟨b, 0, none⟩ = some (.int .i64 i) := o0
          go_wp2_with fail
          refine (put_any (HH.out.drewN (m + n1)) left i hLt HS.out HM.out.trail ⟨by omega, by omega⟩).mono ?_
          rintro e W ⟨rfl, ρ1, tv1, hR, hE1⟩
          have HE := hide ((Ev.drewN ρ w (m + n1)).trans hE1)
          clear hE1 hy hv' VX
          obtain ⟨lc0, lc1, elv, _⟩ := own_form (hR.hold.own (9, 0) _ rfl)
          simp only at elv
          by_cases hn : (s.put left i).lvs.length = 0
          · rw [if_pos hn] at HSE2
            replace HSE2 := hide HSE2
            have c10 := hR.c10
            rw [elv, hn] at c10
            have HR := hide hR
            clear hR elv
            go_wp2
            go_ret
            rw [HSE2.out]
            exact ⟨rfl, _, _, HR.out, rfl, HE.out⟩
          · rw [if_neg hn] at HSE2
            replace HSE2 := hide HSE2
            obtain ⟨k2, hk2⟩ : ∃ k2, (s.put left i).lvs.length = k2 + 1 := ⟨(s.put left i).lvs.length - 1, by omega⟩
            obtain ⟨p, hp⟩ : ∃ p, (s.put left i).lvs[k2]? = some p := ⟨_, List.getElem?_eq_getElem (by omega)⟩
            obtain ⟨gl, lcap, u, elv2, hgl, hu, _, _, d2, zf, hown, hglB, hsep, hgllt, _, _⟩ := hR.lvLast hp
            have c10 := hR.c10
            rw [elv2, hk2] at c10
            have z2 := zf (k2 * 3 + 2)
            have hpl : p.late.length ≤ 1048576 := HM.out.lvl p (List.mem_of_getElem? hp)
            have hlvn : (s.put left i).lvs.length ≤ 1048576 := HM.out.lvs
            have hBlt := hR.lt
            have AF := hide (fun x w3 (hb : Below W.heap.size W x) (hg : x.grownBy w3 u.ownBlock) => (⟨wAfter c10 hb hg (fun k hk => (hsep k hk).1), wAfter d2 hb hg (fun k hk => (hsep k hk).2)⟩ : (_ ∧ _) ∧ (_ ∧ _)))
            have FN := hide (fun gg v w3 hg ho hat hgg => (hR.drew.alloc (.cells #[.pointer (some ⟨b, 0, none⟩)] 80)).llTurn (w' := w3) (gg := gg) (v := v) (q := p.late ++ [i]) hp hu hgl hg ho hat hgg)
            have HSL : Hid ((s.put left i).lateLv i = { (s.put left i) with lvs := (s.put left i).lvs.modify k2 (fun a => { a with late := p.late ++ [i] }) }) := by
              unfold Hid PS.lateLv
              rw [show (s.put left i).lvs.length - 1 = k2 by omega, modify_set _ hp, modify_set _ hp]
            obtain ⟨i0, hi0, hz0, hz1, hz2⟩ := info_parts Try.info80
            have HOWN := hide hown
            rw [hk2] at hlvn
            have HPN := hide hpl
            clear hR elv elv2 hn hsep hown hp hu hgl zf hk2 hglB
            have hwk : IntKind.i64.wrap (k2 : Int) = k2 := by rw [IntKind.wrap_i64]; omega
            have hb0 : (0 : Int) ≤ k2 := by omega
            have hb1 : (k2 : Int) < k2 + 1 := by omega
            go_wp2_with fail
            go_region_law (first
              | (refine step_append_lies _ (by rfl) (.tmp 65) (.tmp 67) 64 (by rfl) 0 80 i0 (.pointer none) 1 8 Try.underlying64 hi0 hz0 hz1 hz2 rfl (by decide) u p.late.length _ (by rfl) (HOWN.out.drew.alloc _) ⟨W.heap.size, 0, none⟩ 1 1 [.pointer (some ⟨b, 0, none⟩)] (by rfl) (by rfl) (World.news_of_block (cs := #[.pointer (some ⟨b, 0, none⟩)]) (t := 80) (fr := (0, 0)) (heap_alloc_new W.drew _)) (by simp [Value.oneCell']) (by decide) (by unfold maxLen; have := HPN.out; omega) (by have := HPN.out; omega) (Nat.zero_le _) (W.heap.size + 1) (by simp) ?_; intro g3 cap3 w3 hown3 hgrow3 hat3 hlt3; obtain ⟨⟨x1, y1⟩, ⟨x2, y2⟩⟩ := AF.out _ _ (below_drew_alloc W _) hgrow3))
            all_goals
              have hfin := FN.out g3 (.slice (some ⟨g3, 0, none⟩) (p.late.length + 1) cap3) w3 hgrow3 (by simpa [ptrsC, ptrC, hb] using hown3) (fun g hg => by simp [Value.ownBlock] at hg; exact hg.symm) (by rcases hat3 with h | h; exact .inl h; exact .inr (by simp; omega))
              have HF := hide hfin
              clear hfin
              go_wp2
              go_ret
              rw [HSE2.out, HSL.out]
              exact ⟨rfl, _, _, HF.out.1, rfl, (HE.out.trans ((Ev.drew _ W).trans (Ev.alloc _))).trans HF.out.2⟩
        · rw [if_neg hv] at HSE2
          have hv' : (s.val left == 0) = false := by simpa using hv
          generalize hy : s.val left = y at *
          go_wp2_with fail
          refine (unhide VX).mono ?_
          rintro e w1 ⟨rfl, n1, rfl⟩
          have hR := HH.out.drewN (m + n1)
          have HE := hide (Ev.drewN ρ w (m + n1))
          clear hy hv VX
          rw [drewN_add]
          generalize w.drewN (m + n1) = W at *
          obtain ⟨lc0, lc1, elv, _⟩ := own_form (hR.hold.own (9, 0) _ rfl)
          simp only at elv
          by_cases hn : s.lvs.length = 0
          · rw [if_pos hn] at HSE2
            replace HSE2 := hide HSE2
            have c10 := hR.c10
            rw [elv, hn] at c10
            have HR := hide hR
            clear hR elv
            go_wp2
            go_ret
            rw [HSE2.out]
            exact ⟨rfl, _, _, HR.out, rfl, HE.out⟩
          · rw [if_neg hn] at HSE2
            replace HSE2 := hide HSE2
            obtain ⟨k2, hk2⟩ : ∃ k2, s.lvs.length = k2 + 1 := ⟨s.lvs.length - 1, by omega⟩
            obtain ⟨p, hp⟩ : ∃ p, s.lvs[k2]? = some p := ⟨_, List.getElem?_eq_getElem (by omega)⟩
            obtain ⟨gl, lcap, u, elv2, hgl, hu, _, _, d2, zf, hown, hglB, hsep, hgllt, _, _⟩ := hR.lvLast hp
            have c10 := hR.c10
            rw [elv2, hk2] at c10
            have z2 := zf (k2 * 3 + 2)
            have hpl : p.late.length ≤ 1048576 := HM.out.lvl p (List.mem_of_getElem? hp)
            have hlvn : s.lvs.length ≤ 1048576 := HM.out.lvs
            have hBlt := hR.lt
            have AF := hide (fun x w3 (hb : Below W.heap.size W x) (hg : x.grownBy w3 u.ownBlock) => (⟨wAfter c10 hb hg (fun k hk => (hsep k hk).1), wAfter d2 hb hg (fun k hk => (hsep k hk).2)⟩ : (_ ∧ _) ∧ (_ ∧ _)))
            have FN := hide (fun gg v w3 hg ho hat hgg => (hR.drew.alloc (.cells #[.pointer (some ⟨b, 0, none⟩)] 80)).llTurn (w' := w3) (gg := gg) (v := v) (q := p.late ++ [i]) hp hu hgl hg ho hat hgg)
            have HSL : Hid (s.lateLv i = { s with lvs := s.lvs.modify k2 (fun a => { a with late := p.late ++ [i] }) }) := by
              unfold Hid PS.lateLv
              rw [show s.lvs.length - 1 = k2 by omega, modify_set _ hp, modify_set _ hp]
            obtain ⟨i0, hi0, hz0, hz1, hz2⟩ := info_parts Try.info80
            have HOWN := hide hown
            rw [hk2] at hlvn
            have HPN := hide hpl
            clear hR elv elv2 hn hsep hown hp hu hgl zf hk2 hglB
            have hwk : IntKind.i64.wrap (k2 : Int) = k2 := by rw [IntKind.wrap_i64]; omega
            have hb0 : (0 : Int) ≤ k2 := by omega
            have hb1 : (k2 : Int) < k2 + 1 := by omega
            go_wp2_with fail
            go_region_law (first
              | (refine step_append_lies _ (by rfl) (.tmp 65) (.tmp 67) 64 (by rfl) 0 80 i0 (.pointer none) 1 8 Try.underlying64 hi0 hz0 hz1 hz2 rfl (by decide) u p.late.length _ (by rfl) (HOWN.out.drew.alloc _) ⟨W.heap.size, 0, none⟩ 1 1 [.pointer (some ⟨b, 0, none⟩)] (by rfl) (by rfl) (World.news_of_block (cs := #[.pointer (some ⟨b, 0, none⟩)]) (t := 80) (fr := (0, 0)) (heap_alloc_new W.drew _)) (by simp [Value.oneCell']) (by decide) (by unfold maxLen; have := HPN.out; omega) (by have := HPN.out; omega) (Nat.zero_le _) (W.heap.size + 1) (by simp) ?_; intro g3 cap3 w3 hown3 hgrow3 hat3 hlt3; obtain ⟨⟨x1, y1⟩, ⟨x2, y2⟩⟩ := AF.out _ _ (below_drew_alloc W _) hgrow3))
            all_goals
              have hfin := FN.out g3 (.slice (some ⟨g3, 0, none⟩) (p.late.length + 1) cap3) w3 hgrow3 (by simpa [ptrsC, ptrC, hb] using hown3) (fun g hg => by simp [Value.ownBlock] at hg; exact hg.symm) (by rcases hat3 with h | h; exact .inl h; exact .inr (by simp; omega))
              have HF := hide hfin
              clear hfin
              go_wp2
              go_ret
              rw [HSE2.out, HSL.out]
              exact ⟨rfl, _, _, HF.out.1, rfl, (HE.out.trans ((Ev.drew _ W).trans (Ev.alloc _))).trans HF.out.2⟩
end

end Go.Proofs.Ytlmbgaconjcaiab
