/- The law: what is learned of any broken clause, and what is left of it, shortened. -/
import Derived.Test.YtaepanmkofhgoaaWalkY
import Derived.Test.YtaepanmkofhgoaaWalkZ
import Derived.Test.YtaepanmkofhgoaaLawC
set_option linter.unusedVariables false
set_option linter.unusedSimpArgs false
namespace Go.Proofs.Ytaepanmkofhgoaa
open Go.RowKit

theorem intsB_self (xs : List Int) : intsB xs xs = true := by simp [intsB]

theorem fal_of_may {ts : List As} {c : List Int} (h : mayLB ts c = true) : mayT ts = true ∧ ∀ l ∈ c, falB ts l = true := by
  unfold mayLB brkB at h
  simp only [Bool.and_eq_true, List.all_eq_true] at h
  exact ⟨h.1, h.2.2⟩

theorem ints_same (w' : World) (xs : List Int) (a1 : Option Addr) (c1 : Nat) (a2 : Option Addr) (c2 : Nat) (h1 : Row w' a1 xs) (h2 : Row w' a2 xs) (hx : xs.length ≤ 7000) :
    Calls Try.prog 14 #[.slice a1 xs.length c1, .slice a2 xs.length c2] w' fun e w'' => e = .returned (.bool true) ∧ ∃ n, w'' = w'.drewN n := by
  have := ints_any a1 a2 c1 c2 xs xs w' h1 h2 (by unfold maxLen; omega) (by unfold maxLen; omega)
  rw [intsB_self] at this
  exact this

set_option maxHeartbeats 4000000 in
theorem learns_any (w : World) (a b : Option Addr) (ca cb : Nat) (ts : List As) (c : List Int) (h : TrI w a ca ts) (hr : Row w b c) (hc : c.length ≤ maxLen) :
    Calls Try.prog 4 #[.slice a ts.length ca, .slice b c.length cb] w fun e w' => e = .returned (.bool true) ∧ Below w.heap.size w w' := by
  have CA := hide (fun w' => awake_any w')
  have CL := hide (light_any w a b ca cb ts c h.tr h.len hc)
  go_enter Try.func4, Try.ntmps4
  go_wp2_with fail
  refine (unhide CL).mono ?_
  rintro e w0 ⟨⟨r, rfl, hr1⟩, hw0⟩
  subst w0
  cases r
  · clear hr1 CL h hr
    go_wp2_with (go_at_call 9; refine (unhide CA _).mono ?_; rintro e w1 ⟨rfl, hb⟩)
    go_ret
    exact ⟨rfl, hb⟩
  · obtain ⟨h20, h100, hrl⟩ := hr1 rfl
    have CM := lawMay_any w a b ca cb ts c h hr h20 h100 hrl
    by_cases hm : mayLB ts c = true
    · rw [hm] at CM
      replace CM := hide CM
      obtain ⟨hmt, hff⟩ := fal_of_may hm
      have T := Tr.of ((mayT_iff (by omega)).1 hmt)
      have LN := Lrn.of T h20 hff h100
      have hlen := LN.len
      have hnd := RB_nodup LN.srt
      have CN := hide (fun w' (hb : Below w.heap.size w w') => learn_yes w' a b ca cb ts c (h.tr.below hb) h20 (hr.below hb) h100 hm)
      have CF := hide (fun w' (hb : Below w.heap.size w w') => refLearn_any w' a b ca cb ts c (h.tr.below hb) h20 T (hr.below hb) hff h100)
      have CS := hide (fun w' (hb : Below w.heap.size w w') b' cb' (hr' : Row w' b' (learnL ts c)) => shorten_any w' a b' ca cb' ts (learnL ts c) (h.tr.below hb) h20 hmt hr' (by omega) LN.fal hnd)
      have CD := hide (fun w' (hb : Below w.heap.size w w') b' cb' (hr' : Row w' b' (learnL ts c)) => refShorten_any w' a b' ca cb' ts (learnL ts c) (h.tr.below hb) h20 h.lc h.cm hrl hmt T hr' (by omega) LN.fal)
      have hss := short_len ts (learnL ts c) (learnL ts c).length
      have CI := hide ints_same
      have hss2 : (shortL ts (learnL ts c)).length ≤ 7000 := by unfold shortL; omega
      clear hr1 CL h hr hm hrl hmt hff T LN hnd hss
      generalize shortL ts (learnL ts c) = Z at *
      generalize learnL ts c = Y at *
      go_wp2_with (first
        | (go_at_call 11; refine (unhide CM).mono ?_; rintro e w1 ⟨rfl, hb1⟩)
        | (go_at_call 12; refine (unhide CN _ hb1).mono ?_; rintro e w2 ⟨v2, rfl, ho2, hn2, hb2⟩; obtain ⟨a2, c2, rfl, hr2⟩ := Own.row' ho2; have hb02 := hb1.trans (hb2.mono hb1.size); clear ho2 hn2)
        | (go_at_call 13; refine (unhide CF _ hb02).mono ?_; rintro e w3 ⟨v3, rfl, ho3, hn3, hb3⟩; obtain ⟨a3, c3, rfl, hr3⟩ := Own.row' ho3; have hb03 := hb02.trans (hb3.mono hb02.size); have hr23 := hr2.below hb3; clear ho3 hn3))
      refine (unhide CI w3 Y a2 c2 a3 c3 hr23 hr3 (by omega)).mono ?_
      rintro e w0 ⟨rfl, n4, hw0⟩
      subst w0
      have hb4 := below_drewN hb03 n4
      have hr24 := hr23.below (below_drew w3 n4)
      have hr34 := hr3.below (below_drew w3 n4)
      clear hr2 hr3 hr23 CN CF CM
      go_wp2_with (first
        | (go_at_call 15; refine (unhide CS _ hb4 _ _ hr24).mono ?_; rintro e w5 ⟨v5, rfl, ho5, hn5, hb5⟩; obtain ⟨a5, c5, rfl, hr5⟩ := Own.row' ho5; have hb05 := hb4.trans (hb5.mono hb4.size); have hr35 := hr34.below hb5; clear ho5 hn5)
        | (go_at_call 16; refine (unhide CD _ hb05 _ _ hr35).mono ?_; rintro e w6 ⟨v6, rfl, ho6, hn6, hb6⟩; obtain ⟨a6, c6, rfl, hr6⟩ := Own.row' ho6; have hb06 := hb05.trans (hb6.mono hb05.size); have hr56 := hr5.below hb6; clear ho6 hn6))
      refine (unhide CI w6 Z a5 c5 a6 c6 hr56 hr6 hss2).mono ?_
      rintro e w0 ⟨rfl, n7, hw0⟩
      subst w0
      have hb7 := below_drewN hb06 n7
      clear hr5 hr6 hr56 hr35 hr34 hr24 CS CD CI
      go_wp2_with (go_at_call 9; refine (unhide CA _).mono ?_; rintro e w8 ⟨rfl, hb8⟩)
      go_ret
      exact ⟨rfl, hb7.trans (hb8.mono hb7.size)⟩
    · have hm' : mayLB ts c = false := by simpa using hm
      rw [hm'] at CM
      replace CM := hide CM
      clear hr1 CL h hr hm hm' hrl
      go_wp2_with (first | (go_at_call 11; refine (unhide CM).mono ?_; rintro e w1 ⟨rfl, hb1⟩) | (go_at_call 9; refine (unhide CA _).mono ?_; rintro e w2 ⟨rfl, hb2⟩))
      go_ret
      exact ⟨rfl, hb1.trans (hb2.mono hb1.size)⟩

end Go.Proofs.Ytaepanmkofhgoaa
