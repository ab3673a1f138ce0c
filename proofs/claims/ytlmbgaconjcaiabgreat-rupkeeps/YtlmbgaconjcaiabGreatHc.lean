/- Contracts: a decision. -/
import Derived.Test.YtlmbgaconjcaiabGreatHb
set_option linter.unusedVariables false
set_option linter.unusedSimpArgs false
namespace Go.Proofs.YtlmbgaconjcaiabGreat
open Go.RowKit

section
variable {ρ : Nat → Rl} {w : World} {B : Nat} {H : Hd} {s : PS}

def DecP (ρ : Nat → Rl) (w : World) (B : Nat) (t : PS) (w' : World) : Prop := ∃ ρ' H', Rep ρ' w' B H' t ∧ Ev ρ w ρ' w'

set_option maxRecDepth 100000 in
set_option maxHeartbeats 800000 in
theorem decide_no (h : Rep ρ w B H s) (hS : Shp s) (l : Int) (hno : ltB s.vars l = false ∨ (Lt s.vars l ∧ s.val l ≠ 0)) :
    Calls Tryz.prog 38 #[.pointer (some ⟨B, 0, none⟩), .int .i64 l] w fun e w' => e = .returned (.int .i64 1) ∧ ∃ n, w' = w.drewN n := by
  have hV := hS.vars
  have G := hide (propLit_any h l (by omega))
  rcases hno with hl | ⟨hl, hv⟩
  · rw [hl] at G
    clear h
    go_enter Tryz.func38, Tryz.ntmps38
    go_wp2_with (go_at_call 57; refine (unhide G).mono ?_; rintro e w0 ⟨rfl, hw0⟩; subst w0)
    go_ret
    exact ⟨rfl, ⟨0, rfl⟩⟩
  · rw [ltB_true.2 hl] at G
    have G2 := hide (value_any h l hl (by omega) hS.vals)
    have hv' : (s.val l != 0) = true := by simpa using hv
    clear h hv
    generalize s.val l = x at *
    go_enter Tryz.func38, Tryz.ntmps38
    go_wp2_with (first | (go_at_call 57; refine (unhide G).mono ?_; rintro e w0 ⟨rfl, hw0⟩; subst w0) | (go_at_call 56; refine (unhide G2).mono ?_; rintro e w0 ⟨rfl, n0, rfl⟩))
    go_ret
    exact ⟨rfl, ⟨_, rfl⟩⟩

set_option maxHeartbeats 4000000 in
set_option maxRecDepth 100000 in
theorem decide_yes (h : Rep ρ w B H s) (hS : Shp s) (hM : Small s) (l : Int) (hl : Lt s.vars l) (hv : s.val l = 0) (hhd : s.head ≤ 1048576) :
    Calls Tryz.prog 38 #[.pointer (some ⟨B, 0, none⟩), .int .i64 l] w fun e w' => e = .returned (.int .i64 0) ∧ DecP ρ w B (s.decide l) w' := by
  have hV := hS.vars
  have G := hide (propLit_any h l (by omega))
  rw [ltB_true.2 hl] at G
  have G2 := value_any h l hl (by omega) hS.vals
  rw [hv] at G2
  replace G2 := hide G2
  obtain ⟨a8, tc, et, _, hm8, _⟩ := h.trl
  have c8 := h.c8
  rw [et] at c8
  have c9 := h.c9
  have c10 := h.c10
  have hown := h.hold.own (9, 0) _ rfl
  simp only at hown
  have hBlt := h.lt
  have hln := hM.lvs
  have htn := hM.trail
  obtain ⟨i0, hi0, hz0, hz1, hz2⟩ := info_parts Tryz.info72
  have hlB : ∀ k, H.lv.ownBlock = some k → k ≠ B := fun k hk => h.hold.ne (r := (9, 0)) (q := (0, 0)) rfl hk rfl rfl (by decide)
  have f10 := h.fz 10
  have HH := hide h
  have HOWN := hide hown
  have HS := hide hS
  have HM := hide hM
  have HLB := hide hlB
  clear h hown et hv hlB
  generalize hlv : H.lv = lv at *
  have HLV := hide hlv
  clear hlv
  generalize hNt : s.trail.length = Nt at *
  have HNT := hide hNt
  clear hNt
  generalize hNh : s.head = Nh at *
  have HNH := hide hNh
  clear hNh
  unfold maxLen at hm8
  go_enter Tryz.func38, Tryz.ntmps38
  go_wp2_with (first | (go_at_call 57; refine (unhide G).mono ?_; rintro e w0 ⟨rfl, hw0⟩; subst w0) | (go_at_call 56; refine (unhide G2).mono ?_; rintro e w0 ⟨rfl, n0, rfl⟩))
  refine forget (P := fun W => Code.wp Tryz.prog _ _ _ W) (fun W => (W.cell? ⟨B, 8, none⟩ = some (.slice a8 Nt tc) ∧ W.cell? ⟨B, 9, none⟩ = some (.int .i64 Nh) ∧ W.cell? ⟨B, 10, none⟩ = some lv ∧ W.frozen? ⟨B, 10, none⟩ = false ∧ B < W.heap.size) ∧ Hid (Rep ρ W B H s) ∧ Hid (Ev ρ w ρ W) ∧ Hid (W.ownsRow 0 72 3 lv s.lvs.length (lvsC s.lvs H.lr))) ⟨⟨c8, c9, c10, f10, hBlt⟩, HH.out.drewN n0, Ev.drewN _ _ _, HOWN.out⟩ ?_
  clear c8 c9 c10 f10 hBlt HH HOWN G G2
  rintro W ⟨⟨c8, c9, c10, f10, hBlt⟩, HH, HE, HOWN⟩
  have AF := hide (fun (x w3 : World) (hb : Below W.heap.size W x) (hg : x.grownBy w3 lv.ownBlock) => (⟨wAfter c8 hb hg HLB.out, wAfter c9 hb hg HLB.out, wAfter c10 hb hg HLB.out⟩ : (_ ∧ _) ∧ (_ ∧ _) ∧ (_ ∧ _)))
  have a8' : (W.alloc (.cells #[.int .i64 Nt, .int .i64 Nh, .slice none 0 0] 72)).cell? ⟨B, 10, none⟩ = some lv := (World.cell?_of_block (a := ⟨B, 10, none⟩) (heap_alloc_old W _ hBlt)).trans c10
  go_region_law (first
    | (refine step_append_lies _ (by rfl) (.tmp 19) (.tmp 30) 67 (by rfl) 0 72 i0 (.agg #[.int .i64 0, .int .i64 0, .slice none 0 0]) 3 40 Tryz.underlying67 hi0 hz0 hz1 hz2 rfl (by decide) lv s.lvs.length _ (by rfl) (HOWN.out.drew.alloc _) ⟨W.heap.size, 0, none⟩ 1 1 [.int .i64 Nt, .int .i64 Nh, .slice none 0 0] (by rfl) (by rfl) (World.news_of_block (cs := #[.int .i64 Nt, .int .i64 Nh, .slice none 0 0]) (t := 72) (fr := (0, 0)) (heap_alloc_new W.drew _)) (by simp [Value.oneCell']) (by decide) (by unfold maxLen; omega) (by omega) (Nat.zero_le _) (W.heap.size + 1) (by simp) ?_; intro g3 cap3 w3 hown3 hgrow3 hat3 hlt3; obtain ⟨⟨x1, y1⟩, ⟨x2, y2⟩, ⟨x3, y3⟩⟩ := AF.out _ _ (below_drew_alloc W _) hgrow3))
  all_goals
    have hfin := (HH.out.drew.alloc (.cells #[.int .i64 Nt, .int .i64 Nh, .slice none 0 0] 72)).lvApp (p := ⟨Nt, Nh, []⟩) (gg := g3) (v := .slice (some ⟨g3, 0, none⟩) (s.lvs.length + 1) cap3) rfl (by rw [HLV.out]; exact hgrow3) (by exact hown3) (fun g hg => by simp [Value.ownBlock] at hg; exact hg.symm) (by rw [HLV.out]; rcases hat3 with h | h; exact .inl h; exact .inr (by simp; omega))
    have HF := hide hfin
    clear hfin hown3 hgrow3 hat3 hlt3 x1 y1 x2 y2 x3 y3 c8 c9 c10 f10 a8' AF HOWN
    go_wp2_with fail
    have hrep := HF.out.1
    have eL : ({ s with lvs := s.lvs ++ [⟨Nt, Nh, []⟩] } : PS) = s.leveled := by unfold PS.leveled; rw [HNT.out, HNH.out]
    rw [eL] at hrep
    refine (put_any hrep l (-1) hl ⟨HS.out.vars, HS.out.vals, HS.out.wat, HS.out.fac, HS.out.bit, HS.out.num⟩ HM.out.trail ⟨by omega, by omega⟩).mono ?_
    rintro e w5 ⟨rfl, ρ5, tv5, hR5, hE5⟩
    have HR5 := hide hR5
    have HE5 := hide ((HE.out.trans ((Ev.drew _ _).trans (Ev.alloc _))).trans (HF.out.2.trans hE5))
    clear hR5 hE5 hrep
    go_wp2
    go_ret
    exact ⟨rfl, ρ5, _, HR5.out, HE5.out⟩
end

end Go.Proofs.YtlmbgaconjcaiabGreat
