/- Joined: Contracts of the document's own words: what follows. Contract of the document's following, of whatever is true at first. -/
import Derived.Test.YtlmbgaconjcaiaaGreatLa
import Derived.Test.YtlmbgaconjcaiaaGreatKAll
set_option linter.unusedVariables false
set_option linter.unusedSimpArgs false
namespace Go.Proofs.YtlmbgaconjcaiaaGreat
open Go.RowKit

/-- What Follows answers: its list in memory of its own. -/
def FolQ (w : World) (p : List Int × Bool) (e : Ending) (w' : World) : Prop :=
  ∃ a cap, e = .returned (.tuple #[.slice a p.1.length cap, .bool p.2]) ∧ Row w' a p.1 ∧ p.1.length ≤ maxLen ∧ Below w.heap.size w w'

theorem follows_succ (cs : List (List Int)) (k : Nat) (t : List Int) : followsP cs (k + 1) t = match nextP t cs 0 with | none => (t, true) | some u => if u = 0 then (t, false) else followsP cs k (t ++ [u]) := rfl
theorem nextP_cons (t c : List Int) (cs : List (List Int)) (n : Int) : nextP t (c :: cs) n = if brokenP t c then none else nextP t cs (if n = 0 then unitR t c 0 else n) := rfl

theorem next_good {V : Nat} {cs : List (List Int)} {t : List Int} {u : Int} (hx : ∀ c ∈ cs, c.length ≤ 10000 ∧ ∀ x ∈ c, Lt V x) (ht : ∀ x ∈ t, Lt V x) (hnd : Nd t) (h : nextP t cs 0 = some u) (hu : u ≠ 0) : Nd (t ++ [u]) ∧ ∀ x ∈ t ++ [u], Lt V x := by
  obtain ⟨_, _, h3⟩ := nextP_some cs 0 u h
  rcases h3 hu with h4 | ⟨c, hc, h4⟩
  · exact absurd h4 hu
  · have h0 : (0 : Int) ∉ c := zero_not (hx c hc).2
    obtain ⟨k1, k2, k3, k4⟩ := unit_ne h0 (by rw [← h4]; exact hu)
    rw [← h4] at k1 k2 k3
    refine ⟨?_, ?_⟩
    · unfold Nd
      rw [List.pairwise_append]
      refine ⟨hnd, List.pairwise_singleton _ _, ?_⟩
      intro a ha b hb
      simp at hb
      subst hb
      refine ⟨fun e => k2 (e ▸ ha), fun e => k3 (by rw [← e]; exact ha)⟩
    · intro x hx'
      rcases List.mem_append.1 hx' with h | h
      · exact ht x h
      · simp at h; subst h; exact (hx c hc).2 _ k1

theorem own_row3 {w : World} {base n cap : Nat} {a : Option Addr} {t : List Int} (h : w.ownsRow base 3 1 (.slice a n cap) n (intC t)) : n = t.length ∧ Row w a t ∧ t.length ≤ maxLen := by
  have hn : n = t.length := by have := h.1; simp [intC] at this; omega
  subst hn
  obtain ⟨a', cap', e, hr, hl, _⟩ := Own.row (base := base) h
  simp at e
  obtain ⟨rfl, rfl⟩ := e
  exact ⟨rfl, hr, hl⟩

set_option maxHeartbeats 40000000 in
set_option maxRecDepth 100000 in
theorem refFollows_any (a b : Option Addr) (ca cb : Nat) (cs : List (List Int)) (t : List Int) (V : Nat) (w : World) (hg : Grid w a cs) (hs : Row w b t) (hbn : b = none → cb = 0) (hcl : cs.length ≤ 1048576) (hV : V ≤ 1048576) (hx : ∀ c ∈ cs, c.length ≤ 10000 ∧ ∀ x ∈ c, Lt V x) (ht : ∀ x ∈ t, Lt V x) (hnd : Nd t) :
    Calls Tryz.prog 30 #[.slice a cs.length ca, .slice b t.length cb] w fun e w' => FolQ w (followsP cs 100001 t) e w' := by
  obtain ⟨N, hN⟩ : ∃ N : Nat, N = 100001 := ⟨_, rfl⟩
  rw [← hN]
  generalize hpp : followsP cs N t = pp
  have HPP := hide hpp
  clear hpp
  obtain ⟨i0, hi, hz0, hz1, hz2⟩ := info_parts Tryz.info3
  have htl := nd_len hnd ht
  have HG := hide hg
  have HS := hide hs
  have HX := hide hx
  have HT := hide ht
  have HND := hide hnd
  have hsrc : (b = none ∧ t.length = 0 ∧ cb = 0 ∧ intC t = []) ∨ ∃ ad, b = some ad ∧ (intC t).length = t.length * 1 ∧ ∀ j u, (intC t)[j]? = some u → (w.alloc (.cells #[] 3)).cell? (ad.add j) = some u := by
    rcases hq : b with _ | ad
    · left
      have h0 : t = [] := by
        cases t with
        | nil => rfl
        | cons x r => obtain ⟨b', off, e, _⟩ := hs 0 (by simp); rw [hq] at e; cases e
      subst h0
      exact ⟨rfl, rfl, hbn hq, rfl⟩
    · right
      refine ⟨ad, rfl, by simp [intC], fun j u hj => ?_⟩
      have hjl : j < t.length := by have := (List.getElem?_eq_some_iff.1 hj).1; simpa [intC] using this
      obtain ⟨b', off, e, hb', hc'⟩ := hs j hjl
      rw [hq] at e
      simp at e
      subst e
      rw [intC_get (List.getElem?_eq_getElem hjl)] at hj
      cases hj
      have := (World.cell?_of_block (a := ⟨b', off + j, none⟩) (heap_alloc_old w (.cells #[] 3) hb')).trans hc'
      rw [Addr.add_lit]; exact this
  have hone : ∀ u ∈ intC t, u.oneCell' = true := by intro u hu; simp only [intC, List.mem_map] at hu; obtain ⟨i, _, rfl⟩ := hu; rfl
  have HSRC := hide hsrc
  have HONE := hide hone
  clear hg hs hx ht hnd hsrc hone hbn
  go_enter Tryz.func30, Tryz.ntmps30
  go_wp2_with (at_builtin; refine wpList_append_any rfl (.tmp 10) (.tmp 11) 25 rfl w.heap.size 3 i0 (.int .i64 0) 1 8 Tryz.underlying25 hi hz0 hz1 hz2 rfl (by decide) (.slice (some ⟨w.heap.size, 0, none⟩) 0 0) 0 [] rfl (own_lit0 w w.heap.size (Nat.le_refl _)) (by simp) b t.length cb (intC t) rfl HSRC.out HONE.out (by unfold maxLen; omega) (by omega) (by simp) ?_; intro g1 cap1 w1 ho1 hgr1 hat1 hlt1)
  simp only [Nat.zero_add, List.nil_append] at ho1
  have hb1 : Below w.heap.size w w1 := (below_alloc w (.cells #[] 3)).grown hgr1 (by simp) (fun k e => by simp [Value.ownBlock] at e; omega)
  have HO1 := hide ho1
  have HB1 := hide hb1
  clear ho1 hgr1 hat1 hlt1 hb1 HSRC HONE
  go_loopw [6, 7] (fun v6 v7 wr => ∃ (n g cap : Nat) (tt : List Int), v6 = .slice (some ⟨g, 0, none⟩) tt.length cap ∧ v7 = .int .i64 n ∧ n ≤ N ∧ Hid (wr.ownsRow w.heap.size 3 1 (.slice (some ⟨g, 0, none⟩) tt.length cap) tt.length (intC tt)) ∧ Hid (Below w.heap.size w wr) ∧ Hid (Nd tt ∧ ∀ x ∈ tt, Lt V x) ∧ Hid (followsP cs (N - n) tt = pp)) (fun _ v7 _ => N - (intOf v7).toNat)
  case atStart => exact ⟨0, g1, cap1, t, by simp, rfl, Nat.zero_le _, HO1, HB1, ⟨HND.out, HT.out⟩, HPP⟩
  case round =>
    clear HO1 HB1 HPP HND HT HS
    obtain ⟨n, g, cap, tt, rfl, rfl, hn, HO, HB, HNT, HF⟩ := hrel
    have httl := nd_len HNT.out.1 HNT.out.2
    by_cases hlt : n < N
    · have hn1 : (n : Int) ≤ 100000 := by omega
      have HF2 := HF.out
      rw [show N - n = (N - (n + 1)) + 1 by omega, follows_succ] at HF2
      obtain ⟨hn0, hrow, hmx⟩ := own_row3 HO.out
      have HROW := hide hrow
      have HF3 := hide HF2
      have HMX := hide hmx
      clear HF HF2 hn0 hrow hmx
      go_wp2_with fail
      go_loopw [8, 9] (fun v8 v9 wr2 => ∃ (k : Nat) (nx : Int), v8 = .int .i64 nx ∧ v9 = .int .i64 k ∧ k ≤ cs.length ∧ Hid (nextP tt (cs.drop k) nx = nextP tt cs 0) ∧ wr2 = wr) (fun _ v9 _ => cs.length - (intOf v9).toNat)
      case atStart => exact ⟨0, 0, rfl, rfl, Nat.zero_le _, rfl, rfl⟩
      case round =>
        obtain ⟨k, nx, rfl, rfl, hk, HNX, hw2⟩ := hrel
        subst hw2
        by_cases hlt2 : k < cs.length
        · obtain ⟨bb, off, ai, ci, rfl, hbb, hcell, hri, hli⟩ := HG.out.below HB.out k hlt2
          have hki : (k : Int) < cs.length := by omega
          have hcx := HX.out cs[k] (List.getElem_mem hlt2)
          have hbd : ∀ x ∈ cs[k], -1048576 ≤ x ∧ x ≤ 1048576 := fun x hx => by have := hcx.2 x hx; unfold Lt at this; omega
          have BR := refBroken_any ai (some ⟨g, 0, none⟩) ci cap cs[k] tt wr hri HROW.out (by omega) HMX.out hbd
          have UN := refUnit_any ai (some ⟨g, 0, none⟩) ci cap cs[k] tt wr hri HROW.out (by omega) HMX.out hbd
          have HNX2 := HNX.out
          rw [List.drop_eq_getElem_cons hlt2, nextP_cons] at HNX2
          clear HNX hri hli hcx hbd
          generalize cs[k] = c at *
          cases hA : brokenP tt c with
          | true =>
            rw [hA] at BR
            rw [if_pos hA] at HNX2
            replace BR := hide BR
            have HP : Hid (pp = (tt, true)) := by unfold Hid; rw [← HF3.out, ← HNX2]
            clear UN HNX2 HF3 hA
            go_wp2_with (go_at_call 49; refine (unhide BR).mono ?_; rintro e w0 ⟨rfl, hw0⟩; subst w0)
            go_ret2
            rw [HP.out]
            exact ⟨_, _, rfl, HROW.out, HMX.out, HB.out⟩
          | false =>
            rw [hA] at BR
            rw [if_neg (by simp [hA])] at HNX2
            replace BR := hide BR
            by_cases hD : nx = 0
            · rw [if_pos hD] at HNX2
              replace HNX2 := hide HNX2
              replace UN := hide UN
              subst hD
              generalize unitR tt c 0 = uu at *
              go_wp2_with (first | (go_at_call 49; refine (unhide BR).mono ?_; rintro e w0 ⟨rfl, hw0⟩; subst w0) | (go_at_call 50; refine (unhide UN).mono ?_; rintro e w0 ⟨rfl, hw0⟩; subst w0))
              go_roundw
              case rel => exact ⟨k + 1, uu, rfl, by go_num, by omega, HNX2, by trivial⟩
              case measure => simp [intOf]; omega
            · rw [if_neg hD] at HNX2
              replace HNX2 := hide HNX2
              have hD' : (nx == 0) = false := by simpa using hD
              clear hD UN
              go_wp2_with (go_at_call 49; refine (unhide BR).mono ?_; rintro e w0 ⟨rfl, hw0⟩; subst w0)
              go_roundw
              case rel => exact ⟨k + 1, nx, rfl, by go_num, by omega, HNX2, by trivial⟩
              case measure => simp [intOf]; omega
        · have hkl : cs.drop k = [] := List.drop_eq_nil_of_le (by omega)
          have HN2 : nextP tt cs 0 = some nx := by rw [← HNX.out, hkl]; rfl
          have HF4 := HF3.out
          rw [HN2] at HF4
          simp only at HF4
          clear HNX hkl HF3
          by_cases hD : nx = 0
          · rw [if_pos hD] at HF4
            have HP : Hid (pp = (tt, false)) := HF4.symm
            have hD' : (nx == 0) = true := by simpa using hD
            clear hD HF4 HN2
            go_wp2
            go_ret2
            rw [HP.out]
            exact ⟨_, _, rfl, HROW.out, HMX.out, HB.out⟩
          · rw [if_neg hD] at HF4
            have hD' : (nx == 0) = false := by simpa using hD
            obtain ⟨g1', g2'⟩ := next_good HX.out HNT.out.2 HNT.out.1 HN2 hD
            have HF5 := hide HF4
            have HNT2 : Hid (Nd (tt ++ [nx]) ∧ ∀ x ∈ tt ++ [nx], Lt V x) := ⟨g1', g2'⟩
            have hlt' := hide hlt
            have HBs := HB.out.size
            clear hD HF4 HN2 g1' g2'
            have ho1 := HO.out
            go_wp2_with (at_builtin; refine wpList_append_lies _ rfl _ _ 25 rfl w.heap.size 3 i0 (.int .i64 0) 1 8 Tryz.underlying25 hi hz0 hz1 hz2 rfl (by decide) _ tt.length _ rfl (ho1.alloc _) ⟨wr.heap.size, 0, none⟩ 1 1 [.int .i64 nx] rfl rfl (World.news_of_block (cs := #[.int .i64 nx]) (heap_alloc_new wr _)) (by simp [Value.oneCell']) (by decide) (by unfold maxLen; omega) (by omega) (by simp; omega) (wr.heap.size + 1) (by simp) ?_; intro g3 cap3 w3 ho3 hgr3 hat3 hlt3)
            have hb3 : Below w.heap.size w w3 := (HB.out.alloc HBs _).grown hgr3 (by simp; omega) (fun k e => by have := (World.ownsRow.lt HO.out k e).1; omega)
            go_roundw
            case rel => exact ⟨n + 1, g3, cap3, tt ++ [nx], by simp, by go_num, hlt'.out, by (unfold Hid; rw [List.length_append]; simpa [intC] using ho3), hb3, HNT2, HF5⟩
            case measure => (have h31 := hlt'.out; simp [intOf]; omega)
    · have hn1 : ¬ (n : Int) ≤ 100000 := by omega
      have HP : Hid (pp = (tt, false)) := by unfold Hid; rw [← HF.out, show N - n = 0 by omega]; rfl
      obtain ⟨hn0, hrow, hmx⟩ := own_row3 HO.out
      have HROW := hide hrow
      have HMX := hide hmx
      clear HF hn0 hrow hmx
      go_wp2
      go_ret2
      rw [HP.out]
      exact ⟨_, _, rfl, HROW.out, HMX.out, HB.out⟩
end Go.Proofs.YtlmbgaconjcaiaaGreat

namespace Go.Proofs.YtlmbgaconjcaiaaGreat
open Go.RowKit

set_option maxHeartbeats 40000000 in
set_option maxRecDepth 100000 in
theorem refFollows_wide (a b : Option Addr) (ca cb : Nat) (cs : List (List Int)) (t : List Int) (V : Nat) (w : World) (hg : Grid w a cs) (hs : Row w b t) (hbn : b = none → cb = 0) (hcl : cs.length ≤ 1048576) (hV : V ≤ 1048576) (hx : ∀ c ∈ cs, c.length ≤ 10000 ∧ ∀ x ∈ c, Lt V x) (htl : t.length ≤ 1000000) :
    Calls Tryz.prog 30 #[.slice a cs.length ca, .slice b t.length cb] w fun e w' => FolQ w (followsP cs 100001 t) e w' := by
  obtain ⟨N, hN⟩ : ∃ N : Nat, N = 100001 := ⟨_, rfl⟩
  rw [← hN]
  generalize hpp : followsP cs N t = pp
  have HPP := hide hpp
  clear hpp
  obtain ⟨i0, hi, hz0, hz1, hz2⟩ := info_parts Tryz.info3
  have HG := hide hg
  have HS := hide hs
  have HX := hide hx
  have hsrc : (b = none ∧ t.length = 0 ∧ cb = 0 ∧ intC t = []) ∨ ∃ ad, b = some ad ∧ (intC t).length = t.length * 1 ∧ ∀ j u, (intC t)[j]? = some u → (w.alloc (.cells #[] 3)).cell? (ad.add j) = some u := by
    rcases hq : b with _ | ad
    · left
      have h0 : t = [] := by
        cases t with
        | nil => rfl
        | cons x r => obtain ⟨b', off, e, _⟩ := hs 0 (by simp); rw [hq] at e; cases e
      subst h0
      exact ⟨rfl, rfl, hbn hq, rfl⟩
    · right
      refine ⟨ad, rfl, by simp [intC], fun j u hj => ?_⟩
      have hjl : j < t.length := by have := (List.getElem?_eq_some_iff.1 hj).1; simpa [intC] using this
      obtain ⟨b', off, e, hb', hc'⟩ := hs j hjl
      rw [hq] at e
      simp at e
      subst e
      rw [intC_get (List.getElem?_eq_getElem hjl)] at hj
      cases hj
      have := (World.cell?_of_block (a := ⟨b', off + j, none⟩) (heap_alloc_old w (.cells #[] 3) hb')).trans hc'
      rw [Addr.add_lit]; exact this
  have hone : ∀ u ∈ intC t, u.oneCell' = true := by intro u hu; simp only [intC, List.mem_map] at hu; obtain ⟨i, _, rfl⟩ := hu; rfl
  have HSRC := hide hsrc
  have HONE := hide hone
  clear hg hs hx hsrc hone hbn
  go_enter Tryz.func30, Tryz.ntmps30
  go_wp2_with (at_builtin; refine wpList_append_any rfl (.tmp 10) (.tmp 11) 25 rfl w.heap.size 3 i0 (.int .i64 0) 1 8 Tryz.underlying25 hi hz0 hz1 hz2 rfl (by decide) (.slice (some ⟨w.heap.size, 0, none⟩) 0 0) 0 [] rfl (own_lit0 w w.heap.size (Nat.le_refl _)) (by simp) b t.length cb (intC t) rfl HSRC.out HONE.out (by unfold maxLen; omega) (by omega) (by simp) ?_; intro g1 cap1 w1 ho1 hgr1 hat1 hlt1)
  simp only [Nat.zero_add, List.nil_append] at ho1
  have hb1 : Below w.heap.size w w1 := (below_alloc w (.cells #[] 3)).grown hgr1 (by simp) (fun k e => by simp [Value.ownBlock] at e; omega)
  have HO1 := hide ho1
  have HB1 := hide hb1
  clear ho1 hgr1 hat1 hlt1 hb1 HSRC HONE
  go_loopw [6, 7] (fun v6 v7 wr => ∃ (n g cap : Nat) (tt : List Int), v6 = .slice (some ⟨g, 0, none⟩) tt.length cap ∧ v7 = .int .i64 n ∧ n ≤ N ∧ Hid (wr.ownsRow w.heap.size 3 1 (.slice (some ⟨g, 0, none⟩) tt.length cap) tt.length (intC tt)) ∧ Hid (Below w.heap.size w wr) ∧ Hid (tt.length ≤ t.length + n) ∧ Hid (followsP cs (N - n) tt = pp)) (fun _ v7 _ => N - (intOf v7).toNat)
  case atStart => exact ⟨0, g1, cap1, t, by simp, rfl, Nat.zero_le _, HO1, HB1, Nat.le_refl _, HPP⟩
  case round =>
    clear HO1 HB1 HPP HS
    obtain ⟨n, g, cap, tt, rfl, rfl, hn, HO, HB, HNT, HF⟩ := hrel
    have httl : tt.length ≤ 1100001 := by have := HNT.out; omega
    by_cases hlt : n < N
    · have hn1 : (n : Int) ≤ 100000 := by omega
      have HF2 := HF.out
      rw [show N - n = (N - (n + 1)) + 1 by omega, follows_succ] at HF2
      obtain ⟨hn0, hrow, hmx⟩ := own_row3 HO.out
      have HROW := hide hrow
      have HF3 := hide HF2
      have HMX := hide hmx
      clear HF HF2 hn0 hrow hmx
      go_wp2_with fail
      go_loopw [8, 9] (fun v8 v9 wr2 => ∃ (k : Nat) (nx : Int), v8 = .int .i64 nx ∧ v9 = .int .i64 k ∧ k ≤ cs.length ∧ Hid (nextP tt (cs.drop k) nx = nextP tt cs 0) ∧ wr2 = wr) (fun _ v9 _ => cs.length - (intOf v9).toNat)
      case atStart => exact ⟨0, 0, rfl, rfl, Nat.zero_le _, rfl, rfl⟩
      case round =>
        obtain ⟨k, nx, rfl, rfl, hk, HNX, hw2⟩ := hrel
        subst hw2
        by_cases hlt2 : k < cs.length
        · obtain ⟨bb, off, ai, ci, rfl, hbb, hcell, hri, hli⟩ := HG.out.below HB.out k hlt2
          have hki : (k : Int) < cs.length := by omega
          have hcx := HX.out cs[k] (List.getElem_mem hlt2)
          have hbd : ∀ x ∈ cs[k], -1048576 ≤ x ∧ x ≤ 1048576 := fun x hx => by have := hcx.2 x hx; unfold Lt at this; omega
          have BR := refBroken_any ai (some ⟨g, 0, none⟩) ci cap cs[k] tt wr hri HROW.out (by omega) HMX.out hbd
          have UN := refUnit_any ai (some ⟨g, 0, none⟩) ci cap cs[k] tt wr hri HROW.out (by omega) HMX.out hbd
          have HNX2 := HNX.out
          rw [List.drop_eq_getElem_cons hlt2, nextP_cons] at HNX2
          clear HNX hri hli hcx hbd
          generalize cs[k] = c at *
          cases hA : brokenP tt c with
          | true =>
            rw [hA] at BR
            rw [if_pos hA] at HNX2
            replace BR := hide BR
            have HP : Hid (pp = (tt, true)) := by unfold Hid; rw [← HF3.out, ← HNX2]
            clear UN HNX2 HF3 hA
            go_wp2_with (go_at_call 49; refine (unhide BR).mono ?_; rintro e w0 ⟨rfl, hw0⟩; subst w0)
            go_ret2
            rw [HP.out]
            exact ⟨_, _, rfl, HROW.out, HMX.out, HB.out⟩
          | false =>
            rw [hA] at BR
            rw [if_neg (by simp [hA])] at HNX2
            replace BR := hide BR
            by_cases hD : nx = 0
            · rw [if_pos hD] at HNX2
              replace HNX2 := hide HNX2
              replace UN := hide UN
              subst hD
              generalize unitR tt c 0 = uu at *
              go_wp2_with (first | (go_at_call 49; refine (unhide BR).mono ?_; rintro e w0 ⟨rfl, hw0⟩; subst w0) | (go_at_call 50; refine (unhide UN).mono ?_; rintro e w0 ⟨rfl, hw0⟩; subst w0))
              go_roundw
              case rel => exact ⟨k + 1, uu, rfl, by go_num, by omega, HNX2, by trivial⟩
              case measure => simp [intOf]; omega
            · rw [if_neg hD] at HNX2
              replace HNX2 := hide HNX2
              have hD' : (nx == 0) = false := by simpa using hD
              clear hD UN
              go_wp2_with (go_at_call 49; refine (unhide BR).mono ?_; rintro e w0 ⟨rfl, hw0⟩; subst w0)
              go_roundw
              case rel => exact ⟨k + 1, nx, rfl, by go_num, by omega, HNX2, by trivial⟩
              case measure => simp [intOf]; omega
        · have hkl : cs.drop k = [] := List.drop_eq_nil_of_le (by omega)
          have HN2 : nextP tt cs 0 = some nx := by rw [← HNX.out, hkl]; rfl
          have HF4 := HF3.out
          rw [HN2] at HF4
          simp only at HF4
          clear HNX hkl HF3
          by_cases hD : nx = 0
          · rw [if_pos hD] at HF4
            have HP : Hid (pp = (tt, false)) := HF4.symm
            have hD' : (nx == 0) = true := by simpa using hD
            clear hD HF4 HN2
            go_wp2
            go_ret2
            rw [HP.out]
            exact ⟨_, _, rfl, HROW.out, HMX.out, HB.out⟩
          · rw [if_neg hD] at HF4
            have hD' : (nx == 0) = false := by simpa using hD
            have HF5 := hide HF4
            have HNT2 : Hid ((tt ++ [nx]).length ≤ t.length + (n + 1)) := by have := HNT.out; unfold Hid; simp; omega
            have hlt' := hide hlt
            have HBs := HB.out.size
            clear hD HF4 HN2
            have ho1 := HO.out
            go_wp2_with (at_builtin; refine wpList_append_lies _ rfl _ _ 25 rfl w.heap.size 3 i0 (.int .i64 0) 1 8 Tryz.underlying25 hi hz0 hz1 hz2 rfl (by decide) _ tt.length _ rfl (ho1.alloc _) ⟨wr.heap.size, 0, none⟩ 1 1 [.int .i64 nx] rfl rfl (World.news_of_block (cs := #[.int .i64 nx]) (heap_alloc_new wr _)) (by simp [Value.oneCell']) (by decide) (by unfold maxLen; omega) (by omega) (by simp; omega) (wr.heap.size + 1) (by simp) ?_; intro g3 cap3 w3 ho3 hgr3 hat3 hlt3)
            have hb3 : Below w.heap.size w w3 := (HB.out.alloc HBs _).grown hgr3 (by simp; omega) (fun k e => by have := (World.ownsRow.lt HO.out k e).1; omega)
            go_roundw
            case rel => exact ⟨n + 1, g3, cap3, tt ++ [nx], by simp, by go_num, hlt'.out, by (unfold Hid; rw [List.length_append]; simpa [intC] using ho3), hb3, HNT2, HF5⟩
            case measure => (have h31 := hlt'.out; simp [intOf]; omega)
    · have hn1 : ¬ (n : Int) ≤ 100000 := by omega
      have HP : Hid (pp = (tt, false)) := by unfold Hid; rw [← HF.out, show N - n = 0 by omega]; rfl
      obtain ⟨hn0, hrow, hmx⟩ := own_row3 HO.out
      have HROW := hide hrow
      have HMX := hide hmx
      clear HF hn0 hrow hmx
      go_wp2
      go_ret2
      rw [HP.out]
      exact ⟨_, _, rfl, HROW.out, HMX.out, HB.out⟩
end Go.Proofs.YtlmbgaconjcaiaaGreat
