/- Contract of the document's way: what is loaded of a file. -/
import Derived.Test.YtgklollpajhmlaaDoorWalkBj
import Derived.Test.YtgklollpajhmlaaDoorWalkW2
import Derived.Test.YtgklollpajhmlaaDoorWalkM
set_option linter.unusedVariables false
set_option linter.unusedSimpArgs false
namespace Go.Proofs.YtgklollpajhmlaaDoor
open Go.RowKit Go.Maps

attribute [local go_sem ↓] Go.wp_at_zero Go.wp_at_succ

theorem told_read (t : List UInt8) : runW Rs.zero t.length (wordsP 0 [] t) = readP Rs.zero 0 [] t := by
  rw [read_run]; simp

theorem told_form {W w : World} {f : FuncId} {args : Array Value} {A : Ans} (h : Calls Tryd.prog f args w (Told W.heap.size W A)) : Calls Tryd.prog f args w fun e w' => ∃ (a1 : Option Addr) (c1 : Nat), e = .returned (.tuple #[.slice a1 A.2.2.length c1, .int .i64 (A.2.1 : Int), .int .i64 A.1]) ∧ Hid (Told W.heap.size W A (.returned (.tuple #[.slice a1 A.2.2.length c1, .int .i64 (A.2.1 : Int), .int .i64 A.1])) w') :=
  h.mono fun e w' ht => by
    obtain ⟨v, h1, h2, h3⟩ := ht
    obtain ⟨a1, c1, rfl, -⟩ := h2.steps
    exact ⟨a1, c1, h1, ⟨_, rfl, h2, h3⟩⟩

set_option maxHeartbeats 1000000 in
theorem refLoad_any (a : Option Addr) (cap : Nat) (t : List UInt8) (w : World) (ht : Txt w.heap.size w a t) (hm : t.length ≤ 6000) (hc : t.length ≤ cap) :
    Calls Tryd.prog 7 #[.slice a t.length cap] w (Told w.heap.size w (loadP t)) := by
  have CB := refBinary_any a cap t w ht (by omega)
  have CD := refDecode_any w a cap t ht (by omega) hc
  have CR := refRead_any w a cap t ht (by omega) hc
  rw [told_read] at CR
  have HL : Hid ((binB t = true → loadP t = dcP 0 [] 0 t) ∧ (binB t = false → loadP t = readP Rs.zero 0 [] t)) := ⟨fun h => by unfold loadP; rw [if_pos h], fun h => by unfold loadP; rw [h]; rfl⟩
  clear ht
  cases hb : binB t
  · have e := HL.out.2 hb
    rw [hb] at CB
    rw [← e] at CR
    have CR2 := hide (told_form CR)
    replace CB := hide CB
    clear CR CD HL e hb
    generalize loadP t = A at *
    obtain ⟨x, p, l⟩ := A
    simp only at CR2
    generalize l.length = n at *
    go_enter Tryd.func7, Tryd.ntmps7
    go_wp2_with (first
      | (go_at_call 9; refine (unhide CB).mono ?_; rintro e w0 ⟨rfl, hw0⟩; subst w0)
      | (go_at_call 16; refine (unhide CR2).mono ?_; rintro e w2 ⟨a1, c1, rfl, HT2⟩))
    refine bodyPost_ret (v := .tuple #[.slice a1 n c1, .int .i64 (p : Int), .int .i64 x]) (by simp [results, Tryd.results7, go_sem]) rfl ?_
    exact HT2.out
  · have e := HL.out.1 hb
    rw [hb] at CB
    rw [← e] at CD
    have CR2 := hide (told_form CD)
    replace CB := hide CB
    clear CR CD HL e hb
    generalize loadP t = A at *
    obtain ⟨x, p, l⟩ := A
    simp only at CR2
    generalize l.length = n at *
    go_enter Tryd.func7, Tryd.ntmps7
    go_wp2_with (first
      | (go_at_call 9; refine (unhide CB).mono ?_; rintro e w0 ⟨rfl, hw0⟩; subst w0)
      | (go_at_call 15; refine (unhide CR2).mono ?_; rintro e w2 ⟨a1, c1, rfl, HT2⟩))
    refine bodyPost_ret (v := .tuple #[.slice a1 n c1, .int .i64 (p : Int), .int .i64 x]) (by simp [results, Tryd.results7, go_sem]) rfl ?_
    exact HT2.out

end Go.Proofs.YtgklollpajhmlaaDoor
