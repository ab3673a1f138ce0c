/- Contract of the program: what is loaded of a file. -/
import Derived.Test.YtgklollpajhmlaaDoorWalkBi
set_option linter.unusedVariables false
set_option linter.unusedSimpArgs false
namespace Go.Proofs.YtgklollpajhmlaaDoor
open Go.RowKit Go.Maps

attribute [local go_sem ↓] Go.wp_at_zero Go.wp_at_succ

set_option maxHeartbeats 1000000 in
theorem load_any (a : Option Addr) (cap : Nat) (t : List UInt8) (w : World) (ht : Txt w.heap.size w a t) (hm : t.length ≤ 4194304) (hc : t.length ≤ cap) (hn : a = none → t = []) :
    Calls Tryd.prog 6 #[.slice a t.length cap] w (Told w.heap.size w (loadP t)) := by
  have CB := binary_any a cap t w ht hm hc
  have CD := decode_any w a cap t ht hm hc
  have CR := read_any w a cap t ht hm hc hn
  have HL : Hid ((binB t = true → loadP t = dcP 0 [] 0 t) ∧ (binB t = false → loadP t = readP Rs.zero 0 [] t)) := ⟨fun h => by unfold loadP; rw [if_pos h], fun h => by unfold loadP; rw [h]; rfl⟩
  clear ht
  cases hb : binB t
  · have e := HL.out.2 hb
    rw [hb] at CB
    rw [← e] at CR
    have CR2 : Hid (Calls Tryd.prog 14 #[.slice a t.length cap] w fun e w' => ∃ (a1 : Option Addr) (c1 : Nat), e = .returned (.tuple #[.slice a1 (loadP t).2.2.length c1, .int .i64 ((loadP t).2.1 : Int), .int .i64 (loadP t).1]) ∧ Hid (Told w.heap.size w (loadP t) (.returned (.tuple #[.slice a1 (loadP t).2.2.length c1, .int .i64 ((loadP t).2.1 : Int), .int .i64 (loadP t).1])) w')) := CR.mono fun e w' ht => by
      obtain ⟨v, h1, h2, h3⟩ := ht
      obtain ⟨a1, c1, rfl, -⟩ := h2.steps
      exact ⟨a1, c1, h1, ⟨_, rfl, h2, h3⟩⟩
    replace CB := hide CB
    clear CR CD HL e hb
    generalize loadP t = A at *
    obtain ⟨x, p, l⟩ := A
    simp only at CR2
    generalize l.length = n at *
    go_enter Tryd.func6, Tryd.ntmps6
    go_wp2_with (first
      | (go_at_call 8; refine (unhide CB).mono ?_; rintro e w0 ⟨rfl, hw0⟩; subst w0)
      | (go_at_call 14; refine (unhide CR2).mono ?_; rintro e w2 ⟨a1, c1, rfl, HT2⟩))
    refine bodyPost_ret (v := .tuple #[.slice a1 n c1, .int .i64 (p : Int), .int .i64 x]) (by simp [results, Tryd.results6, go_sem]) rfl ?_
    exact HT2.out
  · have e := HL.out.1 hb
    rw [hb] at CB
    rw [← e] at CD
    have CR2 : Hid (Calls Tryd.prog 13 #[.slice a t.length cap] w fun e w' => ∃ (a1 : Option Addr) (c1 : Nat), e = .returned (.tuple #[.slice a1 (loadP t).2.2.length c1, .int .i64 ((loadP t).2.1 : Int), .int .i64 (loadP t).1]) ∧ Hid (Told w.heap.size w (loadP t) (.returned (.tuple #[.slice a1 (loadP t).2.2.length c1, .int .i64 ((loadP t).2.1 : Int), .int .i64 (loadP t).1])) w')) := CD.mono fun e w' ht => by
      obtain ⟨v, h1, h2, h3⟩ := ht
      obtain ⟨a1, c1, rfl, -⟩ := h2.steps
      exact ⟨a1, c1, h1, ⟨_, rfl, h2, h3⟩⟩
    replace CB := hide CB
    clear CR CD HL e hb
    generalize loadP t = A at *
    obtain ⟨x, p, l⟩ := A
    simp only at CR2
    generalize l.length = n at *
    go_enter Tryd.func6, Tryd.ntmps6
    go_wp2_with (first
      | (go_at_call 8; refine (unhide CB).mono ?_; rintro e w0 ⟨rfl, hw0⟩; subst w0)
      | (go_at_call 13; refine (unhide CR2).mono ?_; rintro e w2 ⟨a1, c1, rfl, HT2⟩))
    refine bodyPost_ret (v := .tuple #[.slice a1 n c1, .int .i64 (p : Int), .int .i64 x]) (by simp [results, Tryd.results6, go_sem]) rfl ?_
    exact HT2.out

end Go.Proofs.YtgklollpajhmlaaDoor
