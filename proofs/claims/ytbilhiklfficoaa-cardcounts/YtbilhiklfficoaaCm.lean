/- The law of counting, and of how many bits are enough. -/
import Derived.Test.YtbilhiklfficoaaCl
set_option linter.unusedVariables false
set_option linter.unusedSimpArgs false
namespace Go.Proofs.Ytbilhiklfficoaa
open Go.RowKit Go.Maps

theorem Below.kpSv {w W1 W2 : World} {B M : Nat} {v v' : Value} {g g' : List Gt} {k : Nat} (h : Below w.heap.size w W1) (s : St W1 W2 B M v v' g g' k) (hlo : ∀ b, Sv B M v b → w.heap.size ≤ b) : Below w.heap.size w W2 ∧ ∀ b, Sv B M v' b → w.heap.size ≤ b :=
  ⟨below_kp h s.kp hlo h.size, sv_lo hlo s.nv h.size⟩
theorem vs_of {g : List Gt} {ins : List Bool} : (allV ins g).length = g.length := allV_len ins g

section
variable (w : World)
theorem enoughL_any (x : Int) (hx : inI64 x) : Calls Try.prog 6 #[.int .i64 x] w fun e w' => e = .returned (.bool true) ∧ Below w.heap.size w w' := by
  have AW : Hid (∀ W, Calls Try.prog 8 #[] W fun e w' => e = .returned (.bool true) ∧ Below W.heap.size W w') := fun W => awake_any W
  have E1 := hide (enough_any w x hx)
  have E2 := hide (refEnough_any w x hx)
  generalize enI x = y at *
  go_enter Try.func6, Try.ntmps6
  go_wp2_with (first
    | (go_at_call 22; refine (unhide E1).mono ?_; rintro e w' ⟨rfl, hw'⟩; subst w')
    | (go_at_call 11; refine (unhide E2).mono ?_; rintro e w' ⟨rfl, hw'⟩; subst w')
    | (go_at_call 8; refine (unhide AW _).mono ?_; rintro e w1 ⟨rfl, hb1⟩))
  go_ret
  exact ⟨rfl, hb1⟩

set_option maxHeartbeats 2000000 in
set_option maxRecDepth 100000 in
theorem counts_any (ag ai ax : Option Addr) (cg ci ca : Nat) (g : List Gt) (ins : List Bool) (l : List Int) (hg : GS w ag g) (hfg : ag = none → g = [] ∧ cg = 0) (hgl : g.length ≤ maxLen) (hi : Vs w ai ins) (hil : ins.length ≤ maxLen) (hr : Row w ax l) (hf : ax = none → l = []) (hal : l.length ≤ maxLen) :
    Calls Try.prog 3 #[.slice ag g.length cg, .slice ai ins.length ci, .slice ax l.length ca] w fun e w' => e = .returned (.bool true) ∧ Below w.heap.size w w' := by
  have AW : Hid (∀ W, Calls Try.prog 8 #[] W fun e w' => e = .returned (.bool true) ∧ Below W.heap.size W w') := fun W => awake_any W
  by_cases hin : g.length ≤ 12 ∧ l.length ≤ 100 ∧ May g
  · obtain ⟨hg12, hl100, hmay⟩ := hin
    have BG := hide (begin_yes w ag ax cg ca g l hg hfg hg12 hl100 hmay)
    have RM : Hid (∀ W, Below w.heap.size w W → Calls Try.prog 10 #[.slice ag g.length cg, .slice ax l.length ca] W fun e w' => e = .returned (.bool (mayL g l)) ∧ w' = W) := fun W hb => refMayL_any W ag cg g ax ca l (by omega) (hr.below hb) hl100
    cases hm : mayL g l with
    | false =>
      rw [hm] at RM
      have CN : Hid (∀ W B M v, Gr W B M v g → Below w.heap.size w W → Calls Try.prog 9 #[.pointer (some ⟨B, 0, none⟩), .slice ax l.length ca] W fun e w' => e = .returned (.slice none 0 0) ∧ w' = W) := fun W B M v h hb => count_no W B M v g ax ca l h (hr.below hb) hl100 hm
      clear hg hfg hi hr hf hm hmay
      generalize l.length = n at *
      generalize g.length = gl at *
      generalize ins.length = il at *
      go_enter Try.func3, Try.ntmps3
      go_wp2_with (first
        | (go_at_call 7; refine (unhide BG).mono ?_; rintro e w1 ⟨B, M, v, rfl, hG, hb1, hlo⟩)
        | (go_at_call 9; refine (unhide CN _ _ _ _ hG hb1).mono ?_; rintro e w' ⟨rfl, hw'⟩; subst w')
        | (go_at_call 10; refine (unhide RM _ hb1).mono ?_; rintro e w' ⟨rfl, hw'⟩; subst w')
        | (go_at_call 8; refine (unhide AW _).mono ?_; rintro e w2 ⟨rfl, hb2⟩))
      go_ret
      exact ⟨rfl, hb1.trans (hb2.mono hb1.size)⟩
    | true =>
      rw [hm] at RM
      have hm2 := mayL_iff.1 hm
      obtain ⟨n, hn⟩ : ∃ n, l.length = n := ⟨_, rfl⟩
      obtain ⟨m, hmm⟩ : ∃ m, enN n = m := ⟨_, rfl⟩
      have hm16 : 1 ≤ m ∧ m ≤ 16 := by rw [← hmm]; exact enN_16 (by omega)
      have h64 : n ≤ 64 := by omega
      have EN : Hid (∀ W : World, Calls Try.prog 11 #[.int .i64 (n : Int)] W fun e w' => e = .returned (.int .i64 (m : Int)) ∧ w' = W) := fun W => by
        have h := refEnough_any W (n : Int) (by unfold inI64; omega)
        have e : enI (n : Int) = (m : Int) := by unfold enI; rw [if_pos (by omega), Int.toNat_natCast, hmm]
        rwa [e] at h
      have CN : Hid (∀ W B M v, Gr W B M v g → Below w.heap.size w W → Calls Try.prog 9 #[.pointer (some ⟨B, 0, none⟩), .slice ax n ca] W (CNP W B M v g m (fun ins => bitsW ins g l))) := fun W B M v h hb => by
        rw [← hmm]
        exact count_yes W B M v g ax ca l n _ h (by omega) hn h64 (hr.below hb) hf ⟨hm2.1, fun _ => rfl⟩
      obtain ⟨N, hN⟩ : ∃ N, cntT (bitsW ins g l) = N := ⟨_, rfl⟩
      have TR : Hid (∀ W, Below w.heap.size w W → Calls Try.prog 15 #[.slice ag g.length cg, .slice ai ins.length ci, .slice ax n ca] W fun e w' => e = .returned (.int .i64 (N : Int)) ∧ Below W.heap.size W w') := fun W hb => by
        have h := refCount_any W ag ai cg ci g ins ax ca l (hg.below hb) hmay (by omega) (hi.below hb) hil (hr.below hb) hl100 hm2.1
        rwa [hN, hn] at h
      have HVI : Hid (∀ W, Below w.heap.size w W → Vs W ai ins) := fun W hb => hi.below hb
      have HNN := hide hN
      rw [hn] at RM BG ⊢
      have HIL := hide hil
      have HGL := hide hg12
      by_cases h30 : (30 : Int) < (n : Int)
      · clear hg hfg hi hr hf hm hm2 hmay hn hmm hN HNN TR HVI
        generalize hgle : g.length = gl at *
        generalize ins.length = il at *
        clear hgle
        go_enter Try.func3, Try.ntmps3
        go_wp2_with (first
          | (go_at_call 7; refine (unhide BG).mono ?_; rintro e w1 ⟨B, M, v, rfl, hG, hb1, hlo⟩)
          | (go_at_call 9; refine (unhide CN _ _ _ _ hG hb1).mono ?_; rintro e w2 ⟨f, ⟨q1, l1, v1, g1, rfl, s1, b1⟩, hnum⟩; have hb2 := (Below.kpSv hb1 s1 hlo).1)
          | (go_at_call 10; refine (unhide RM _ hb2).mono ?_; rintro e w' ⟨rfl, hw'⟩; subst w')
          | (go_at_call 11; refine (unhide EN _).mono ?_; rintro e w' ⟨rfl, hw'⟩; subst w')
          | (go_at_call 8; refine (unhide AW _).mono ?_; rintro e w3 ⟨rfl, hb3⟩))
        go_ret
        exact ⟨rfl, hb2.trans (hb3.mono hb2.size)⟩
      · clear hg hfg hi hr hf hm hm2 hmay hn hmm hN
        generalize hgle : g.length = gl at *
        have HGLE := hide hgle
        obtain ⟨il, hile⟩ : ∃ il, ins.length = il := ⟨_, rfl⟩
        rw [hile] at HIL hil TR ⊢
        have HILE := hide hile
        clear hgle hile
        go_enter Try.func3, Try.ntmps3
        go_wp2_with (first
          | (go_at_call 7; refine (unhide BG).mono ?_; rintro e w1 ⟨B, M, v, rfl, hG, hb1, hlo⟩)
          | (go_at_call 9; refine (unhide CN _ _ _ _ hG hb1).mono ?_; rintro e w2 ⟨f, ⟨q1, l1, v1, g1, rfl, s1, b1⟩, hnum⟩; have hb2 := (Below.kpSv hb1 s1 hlo).1)
          | (go_at_call 10; refine (unhide RM _ hb2).mono ?_; rintro e w' ⟨rfl, hw'⟩; subst w')
          | (go_at_call 13; refine (nodes_any w2 B M v1 g1 s1.gr).mono ?_; rintro e w3 ⟨al3, cap3, rfl, hs3, hb3, hf3⟩; have hb4 := hb2.trans (hb3.mono hb2.size); have EV := eval_any w3 al3 cap3 g1 hs3 s1.gr.le s1.gr.may ai ci ins (unhide HVI _ hb4) (by rw [HILE.out]; exact HIL.out); rw [HILE.out] at EV)
          | (go_at_call 12; refine EV.mono ?_; rintro e w4 ⟨q4, cap4, rfl, hv4, hb5⟩)
          | (go_at_call 11; refine (unhide EN _).mono ?_; rintro e w' ⟨rfl, hw'⟩; subst w')
          | (go_at_call 14; have NM := number_any w4 (some ⟨q4, 0, none⟩) cap4 (allV ins g1) (some ⟨q1, 0, none⟩) m l1 m hv4 (by rw [allV_len]; exact s1.gr.le) ((b1.rw.row.below hb3).below hb5) b1.len hm16.2; rw [show numB (l1.map (valF (allV ins g1))) = N from (congrArg numB (b1.wt.2 ins)).trans ((hnum ins).trans HNN.out)] at NM; refine NM.mono ?_; rintro e w5 ⟨rfl, j5, hw5⟩; subst w5)
          | (go_at_call 15; refine (unhide TR _ (below_drewN (hb4.trans (hb5.mono hb4.size)) j5)).mono ?_; rintro e w6 ⟨rfl, hb6⟩)
          | (go_at_call 8; refine (unhide AW _).mono ?_; rintro e w7 ⟨rfl, hb7⟩))
        go_ret
        exact ⟨rfl, (below_drewN (hb4.trans (hb5.mono hb4.size)) j5).trans ((hb6.trans (hb7.mono hb6.size)).mono (below_drewN (hb4.trans (hb5.mono hb4.size)) j5).size)⟩
  · have BG := hide (begin_no w ag ax cg ca g l hg hgl hal (by
      by_cases h1 : 12 < g.length
      · exact .inl h1
      by_cases h2 : 100 < l.length
      · exact .inr (.inl h2)
      exact .inr (.inr fun h => hin ⟨by omega, by omega, h⟩)))
    clear hg hfg hi hr hf hin
    unfold maxLen at hgl hal hil
    generalize l.length = n at *
    generalize g.length = gl at *
    generalize ins.length = il at *
    go_enter Try.func3, Try.ntmps3
    go_wp2_with (first
      | (go_at_call 7; refine (unhide BG).mono ?_; rintro e w1 ⟨rfl, hb1⟩)
      | (go_at_call 8; refine (unhide AW _).mono ?_; rintro e w2 ⟨rfl, hb2⟩))
    go_ret
    exact ⟨rfl, hb1.trans (hb2.mono hb1.size)⟩
end
end Go.Proofs.Ytbilhiklfficoaa
