/- The law: gone back, all of what was learned is false but the point, which is open. -/
import Derived.Test.YtaepanmkofhgoaaWalkR
import Derived.Test.YtaepanmkofhgoaaWalkBk
import Derived.Test.YtaepanmkofhgoaaLawC
import Derived.Test.YtaepanmkofhgoaaPlainA
set_option linter.unusedVariables false
set_option linter.unusedSimpArgs false
namespace Go.Proofs.Ytaepanmkofhgoaa
open Go.RowKit

theorem fal_of_may {ts : List As} {c : List Int} (h : mayLB ts c = true) : mayT ts = true ∧ ∀ l ∈ c, falB ts l = true := by
  unfold mayLB brkB at h
  simp only [Bool.and_eq_true, List.all_eq_true] at h
  exact ⟨h.1, h.2.2⟩

set_option maxHeartbeats 8000000 in
set_option maxRecDepth 100000 in
theorem asserts_any (w : World) (a b : Option Addr) (ca cb : Nat) (ts : List As) (c : List Int) (h : TrI w a ca ts) (hr : Row w b c) (hc : c.length ≤ maxLen) :
    Calls Try.prog 7 #[.slice a ts.length ca, .slice b c.length cb] w fun e w' => e = .returned (.bool true) ∧ Below w.heap.size w w' := by
  have CA := hide (fun w' => awake_any w')
  have CL := hide (light_any w a b ca cb ts c h.tr h.len hc)
  go_enter Try.func7, Try.ntmps7
  go_wp2_with fail
  refine (unhide CL).mono ?_
  rintro e w0 ⟨⟨r, rfl, hr1⟩, hw0⟩
  subst w0
  cases r
  · clear hr1 CL h hr
    go_wp2_with (go_at_call 9; refine (unhide CA _).mono ?_; rintro e w1 ⟨rfl, hb⟩)
    go_ret
    exact ⟨rfl, hb⟩
  · obtain ⟨h20, h100, hrl⟩ := hr1 rfl
    have CM := lawMay_any w a b ca cb ts c h hr h20 h100 hrl
    by_cases hmm : mayLB ts c = true
    · rw [hmm] at CM
      replace CM := hide CM
      obtain ⟨hmt, hff⟩ := fal_of_may hmm
      have T := Tr.of ((mayT_iff (by omega)).1 hmt)
      have LN := Lrn.of T h20 hff h100
      have hlen := LN.len
      have hnd := RB_nodup LN.srt
      have hss := short_len ts (learnL ts c) (learnL ts c).length
      have hss2 : (shortL ts (learnL ts c)).length ≤ 7000 := by unfold shortL; omega
      have CN := hide (fun w' (hb : Below w.heap.size w w') => learn_yes w' a b ca cb ts c (h.tr.below hb) h20 (hr.below hb) h100 hmm)
      have CS := hide (fun w' (hb : Below w.heap.size w w') b' cb' (hr' : Row w' b' (learnL ts c)) => shorten_any w' a b' ca cb' ts (learnL ts c) (h.tr.below hb) h20 hmt hr' (by omega) LN.fal hnd)
      have hfZ : ∀ l ∈ shortL ts (learnL ts c), falB ts l = true := fun l hl => LN.fal l (short_sub hl)
      have hg0 : 0 ≤ grt ts c := (grt_ge c 0).1
      have hpt := fun (y : Int) (R : List Int) (e : shortL ts (learnL ts c) = y :: R) => short_point LN hg0 e
      clear hr1 CL hmm hrl hnd hss LN
      generalize hZe : shortL ts (learnL ts c) = Z at *
      generalize hYe : learnL ts c = Y at *
      clear hYe hZe
      go_upto_region 5 with (first
        | (go_at_call 11; refine (unhide CM).mono ?_; rintro e w1 ⟨rfl, hb1⟩)
        | (go_at_call 12; refine (unhide CN _ hb1).mono ?_; rintro e w2 ⟨v2, rfl, ho2, hn2, hb2⟩; obtain ⟨a2, c2, rfl, hr2⟩ := Own.row' ho2; have hb02 := hb1.trans (hb2.mono hb1.size); clear ho2 hn2)
        | (go_at_call 15; refine (unhide CS _ hb02 _ _ hr2).mono ?_; rintro e w3 ⟨v3, rfl, ho3, hn3, hb3⟩; obtain ⟨g3, c3, rfl, _⟩ := ho3.src hn3; have hb03 := hb02.trans (hb3.mono hb02.size)))
      have hrz := own_row ho3
      have hcap : Z.length ≤ c3 ∧ c3 ≤ maxLen := by
        rcases ho3.2 with ⟨e, _⟩ | ⟨g, cap, cur, e, _, _, hn, hmx, _⟩
        · cases e
        · cases e; exact ⟨hn, hmx⟩
      have ht3 := h.tr.below hb03
      clear CM CN CS ho3 hn3 hr2 hb2 hb3 hb1 hb02
      cases Z with
      | nil =>
        have CB := hide (back_none w3 a (some ⟨g3, 0, none⟩) ca c3 ts ht3 h20 hmt)
        have e0 : ([] : List Int).length = 0 := rfl
        rw [e0]
        clear hpt hfZ hrz ht3 e0 hcap
        go_wp2_with (first
          | (go_at_call 18; refine (unhide CB).mono ?_; rintro e w4 ⟨rfl, hb4⟩)
          | (go_at_call 9; refine (unhide CA _).mono ?_; rintro e w5 ⟨rfl, hb5⟩))
        go_ret
        have h4 := hb03.trans (hb4.mono hb03.size)
        exact ⟨rfl, h4.trans (hb5.mono h4.size)⟩
      | cons y R =>
        obtain ⟨hRl, hRg⟩ := hpt y R rfl
        have elen : (y :: R).length = R.length + 1 := rfl
        rw [elen] at hcap hss2 ⊢
        have CB := hide (back_some w3 a g3 ca c3 ts y R ht3 h20 hmt hrz (by omega) hcap.2 (by omega) hfZ)
        have CLV := hide (fun w' (hb : Below w3.heap.size w3 w') l hl => refLevel_any w' a ca ts l (ht3.below hb) h20 T hl)
        have CV := fun w' (hb : Below w3.heap.size w3 w') => levels_any w' a (some ⟨g3, 0, none⟩) ca c3 ts (y :: R) (ht3.below hb) h20 hmt (hrz.below hb) (by rw [elen]; omega) hfZ
        rw [elen] at CV
        replace CV := hide CV
        have HROW := hide hrz
        have hq0 : ((R.length : Int) + 1 == 0) = false := by simp; omega
        have hgn : 0 ≤ grt ts R := (grt_ge R 0).1
        have hL0 : (0 : Int) < (R.length : Int) + 1 := by omega
        have HMEM := hide (fun l (hl : l ∈ R) => grt_mem (ts := ts) hl)
        have hy := hfZ y (by simp)
        have hz0 := hrz 0 (by simp)
        obtain ⟨b9, off9, e9, hb9, hc9⟩ := hz0
        cases e9
        simp at hc9
        clear hpt hrz ht3 hff h hr T
        go_upto_region 8 with (go_at_call 18; refine (unhide CB).mono ?_; rintro e w4 ⟨rfl, hb4⟩)
        have hc4 := (hb4.cell (p := ⟨g3, 0, none⟩) hb9).trans hc9
        have C8 := hide ((unhide CLV) w4 hb4 y hy)
        have hd1 : decide (grt ts R < 0) = false := by simp; omega
        have hd2 : decide (levI ts y ≤ grt ts R) = false := by simp; omega
        have HK : Hid (∀ (k : Nat) (hk : k < (y :: R).length), decide (levI ts (y :: R)[k] ≤ grt ts R) = decide ((0 : Int) < k)) := by
          show ∀ (k : Nat) (hk : k < (y :: R).length), decide (levI ts (y :: R)[k] ≤ grt ts R) = decide ((0 : Int) < k)
          intro k hk
          cases k with
          | zero => simp; omega
          | succ k =>
            have hm1 := HMEM.out _ (List.getElem_mem (by simpa using hk : k < R.length))
            simp only [List.getElem_cons_succ]
            rw [decide_eq_true hm1, decide_eq_true (by omega)]
        have HF := hide hfZ
        clear CB HMEM hfZ hRl
        generalize hlv : levI ts y = lv at C8 hd2 hRg
        generalize hgr : grt ts R = gr at *
        go_upto_region 11 with (go_at_call 23; refine (unhide C8).mono ?_; rintro e w0 ⟨rfl, hw0⟩; subst w0)
        clear C8 hd1 hd2 hc4 hc9 hlv hRg
        go_loopw [9] (fun i wr => ∃ (k : Nat), k ≤ R.length + 1 ∧ i = .int .i64 k ∧ wr = w4) (fun i _ => R.length + 1 - (intOf i).toNat)
        case atStart => exact ⟨0, Nat.zero_le _, rfl, rfl⟩
        case round =>
          obtain ⟨k, hk, rfl, hwr⟩ := hrel
          subst wr
          by_cases hlt : k < (y :: R).length
          · have hltn : k < R.length + 1 := hlt
            obtain ⟨b3, off3, e3, hb3, hc3⟩ := HROW.out k hlt
            cases e3
            have hc' := (hb4.cell (p := ⟨g3, 0 + k, none⟩) hb3).trans hc3
            simp only [Nat.zero_add] at hc'
            have C1 := hide ((unhide CLV) w4 hb4 _ (HF.out _ (List.getElem_mem hlt)))
            have hkk := HK.out k hlt
            have hgi : decide ((k : Int) < (R.length : Int) + 1) = true := by simp; omega
            clear HROW CLV HK HF hc3
            generalize (y :: R)[k] = z at *
            clear hlt
            generalize levI ts z = lz at *
            generalize hdd : decide ((0 : Int) < k) = dd at *
            have hx : (!(dd == decide (0 < k))) = false := by rw [← hdd]; simp
            clear hdd
            go_wp2_with (go_at_call 23; refine (unhide C1).mono ?_; rintro e w0 ⟨rfl, hw0⟩; subst w0)
            exact ⟨⟨k + 1, by omega, by go_num, trivial⟩, by simp [intOf]; omega⟩
          · have hke : k = R.length + 1 := by simp at hlt; omega
            subst hke
            have C2 := hide ((unhide CV) w4 hb4)
            have hgi : decide (((R.length + 1 : Nat) : Int) < (R.length : Int) + 1) = false := by simp
            clear HROW CLV HK HF hlt CV
            go_wp2_with (first
              | (go_at_call 20; refine (unhide C2).mono ?_; rintro e w5 ⟨r, rfl, hr5, hb5⟩)
              | (go_at_call 9; refine (unhide CA _).mono ?_; rintro e w6 ⟨rfl, hb6⟩))
            go_ret
            have h4 := hb03.trans (hb4.mono hb03.size)
            have h5 := h4.trans (hb5.mono h4.size)
            exact ⟨rfl, h5.trans (hb6.mono h5.size)⟩
    · have hm' : mayLB ts c = false := by simpa using hmm
      rw [hm'] at CM
      replace CM := hide CM
      clear hr1 CL h hr hmm hm' hrl
      go_wp2_with (first | (go_at_call 11; refine (unhide CM).mono ?_; rintro e w1 ⟨rfl, hb1⟩) | (go_at_call 9; refine (unhide CA _).mono ?_; rintro e w2 ⟨rfl, hb2⟩))
      go_ret
      exact ⟨rfl, hb1.trans (hb2.mono hb1.size)⟩

end Go.Proofs.Ytaepanmkofhgoaa
