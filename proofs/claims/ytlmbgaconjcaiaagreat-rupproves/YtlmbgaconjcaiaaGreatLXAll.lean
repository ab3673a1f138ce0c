/- Joined: Contracts of the document's own words: what follows. Contract of the document's following, of whatever is true at first. Contracts of the document: which clauses are at hand by units. Contracts of the document: which clauses are at hand by their first literal. What the program tells is what the document tells: plain. What a step makes of a formula is what the document says: plain. Contracts of the document: which literal is ahead; a clause in order. Contracts of the document: lists of clauses, formulas are alike. -/
import Derived.Test.YtlmbgaconjcaiaaGreatLa
import Derived.Test.YtlmbgaconjcaiaaGreatIHAll
import Derived.Test.YtlmbgaconjcaiaaGreatRiAll
import Derived.Test.YtlmbgaconjcaiaaGreatVFAll
import Derived.Test.YtlmbgaconjcaiaaGreatNormAll
import Derived.Deep.RegionWith
set_option linter.unusedVariables false
set_option linter.unusedSimpArgs false
namespace Go.Proofs.YtlmbgaconjcaiaaGreat
open Go.RowKit

/-- What Follows answers: its list in memory of its own. -/
def FolQ (w : World) (p : List Int × Bool) (e : Ending) (w' : World) : Prop :=
  ∃ a cap, e = .returned (.tuple #[.slice a p.1.length cap, .bool p.2]) ∧ Row w' a p.1 ∧ p.1.length ≤ maxLen ∧ Below w.heap.size w w'

theorem follows_succ (cs : List (List Int)) (k : Nat) (t : List Int) : followsP cs (k + 1) t = match nextP t cs 0 with | none => (t, true) | some u => if u = 0 then (t, false) else followsP cs k (t ++ [u]) := rfl
theorem nextP_cons (t c : List Int) (cs : List (List Int)) (n : Int) : nextP t (c :: cs) n = if brokenP t c then none else nextP t cs (if n = 0 then unitR t c 0 else n) := rfl

theorem next_good {V : Nat} {cs : List (List Int)} {t : List Int} {u : Int} (hx : ∀ c ∈ cs, c.length ≤ 10000 ∧ ∀ x ∈ c, Lt V x) (ht : ∀ x ∈ t, Lt V x) (hnd : Nd t) (h : nextP t cs 0 = some u) (hu : u ≠ 0) : Nd (t ++ [u]) ∧ ∀ x ∈ t ++ [u], Lt V x := by
  obtain ⟨_, _, h3⟩ := nextP_some cs 0 u h
  rcases h3 hu with h4 | ⟨c, hc, h4⟩
  · exact absurd h4 hu
  · have h0 : (0 : Int) ∉ c := zero_not (hx c hc).2
    obtain ⟨k1, k2, k3, k4⟩ := unit_ne h0 (by rw [← h4]; exact hu)
    rw [← h4] at k1 k2 k3
    refine ⟨?_, ?_⟩
    · unfold Nd
      rw [List.pairwise_append]
      refine ⟨hnd, List.pairwise_singleton _ _, ?_⟩
      intro a ha b hb
      simp at hb
      subst hb
      refine ⟨fun e => k2 (e ▸ ha), fun e => k3 (by rw [← e]; exact ha)⟩
    · intro x hx'
      rcases List.mem_append.1 hx' with h | h
      · exact ht x h
      · simp at h; subst h; exact (hx c hc).2 _ k1

theorem own_row3 {w : World} {base n cap : Nat} {a : Option Addr} {t : List Int} (h : w.ownsRow base 3 1 (.slice a n cap) n (intC t)) : n = t.length ∧ Row w a t ∧ t.length ≤ maxLen := by
  have hn : n = t.length := by have := h.1; simp [intC] at this; omega
  subst hn
  obtain ⟨a', cap', e, hr, hl, _⟩ := Own.row (base := base) h
  simp at e
  obtain ⟨rfl, rfl⟩ := e
  exact ⟨rfl, hr, hl⟩

set_option maxHeartbeats 40000000 in
set_option maxRecDepth 100000 in
theorem refFollows_any (a b : Option Addr) (ca cb : Nat) (cs : List (List Int)) (t : List Int) (V : Nat) (w : World) (hg : Grid w a cs) (hs : Row w b t) (hbn : b = none → cb = 0) (hcl : cs.length ≤ 1048576) (hV : V ≤ 1048576) (hx : ∀ c ∈ cs, c.length ≤ 10000 ∧ ∀ x ∈ c, Lt V x) (ht : ∀ x ∈ t, Lt V x) (hnd : Nd t) :
    Calls Tryz.prog 30 #[.slice a cs.length ca, .slice b t.length cb] w fun e w' => FolQ w (followsP cs 100001 t) e w' := by
  obtain ⟨N, hN⟩ : ∃ N : Nat, N = 100001 := ⟨_, rfl⟩
  rw [← hN]
  generalize hpp : followsP cs N t = pp
  have HPP := hide hpp
  clear hpp
  obtain ⟨i0, hi, hz0, hz1, hz2⟩ := info_parts Tryz.info3
  have htl := nd_len hnd ht
  have HG := hide hg
  have HS := hide hs
  have HX := hide hx
  have HT := hide ht
  have HND := hide hnd
  have hsrc : (b = none ∧ t.length = 0 ∧ cb = 0 ∧ intC t = []) ∨ ∃ ad, b = some ad ∧ (intC t).length = t.length * 1 ∧ ∀ j u, (intC t)[j]? = some u → (w.alloc (.cells #[] 3)).cell? (ad.add j) = some u := by
    rcases hq : b with _ | ad
    · left
      have h0 : t = [] := by
        cases t with
        | nil => rfl
        | cons x r => obtain ⟨b', off, e, _⟩ := hs 0 (by simp); rw [hq] at e; cases e
      subst h0
      exact ⟨rfl, rfl, hbn hq, rfl⟩
    · right
      refine ⟨ad, rfl, by simp [intC], fun j u hj => ?_⟩
      have hjl : j < t.length := by have := (List.getElem?_eq_some_iff.1 hj).1; simpa [intC] using this
      obtain ⟨b', off, e, hb', hc'⟩ := hs j hjl
      rw [hq] at e
      simp at e
      subst e
      rw [intC_get (List.getElem?_eq_getElem hjl)] at hj
      cases hj
      have := (World.cell?_of_block (a := ⟨b', off + j, none⟩) (heap_alloc_old w (.cells #[] 3) hb')).trans hc'
      rw [Addr.add_lit]; exact this
  have hone : ∀ u ∈ intC t, u.oneCell' = true := by intro u hu; simp only [intC, List.mem_map] at hu; obtain ⟨i, _, rfl⟩ := hu; rfl
  have HSRC := hide hsrc
  have HONE := hide hone
  clear hg hs hx ht hnd hsrc hone hbn
  go_enter Tryz.func30, Tryz.ntmps30
  go_wp2_with (at_builtin; refine wpList_append_any rfl (.tmp 10) (.tmp 11) 25 rfl w.heap.size 3 i0 (.int .i64 0) 1 8 Tryz.underlying25 hi hz0 hz1 hz2 rfl (by decide) (.slice (some ⟨w.heap.size, 0, none⟩) 0 0) 0 [] rfl (own_lit0 w w.heap.size (Nat.le_refl _)) (by simp) b t.length cb (intC t) rfl HSRC.out HONE.out (by unfold maxLen; omega) (by omega) (by simp) ?_; intro g1 cap1 w1 ho1 hgr1 hat1 hlt1)
  simp only [Nat.zero_add, List.nil_append] at ho1
  have hb1 : Below w.heap.size w w1 := (below_alloc w (.cells #[] 3)).grown hgr1 (by simp) (fun k e => by simp [Value.ownBlock] at e; omega)
  have HO1 := hide ho1
  have HB1 := hide hb1
  clear ho1 hgr1 hat1 hlt1 hb1 HSRC HONE
  go_loopw [6, 7] (fun v6 v7 wr => ∃ (n g cap : Nat) (tt : List Int), v6 = .slice (some ⟨g, 0, none⟩) tt.length cap ∧ v7 = .int .i64 n ∧ n ≤ N ∧ Hid (wr.ownsRow w.heap.size 3 1 (.slice (some ⟨g, 0, none⟩) tt.length cap) tt.length (intC tt)) ∧ Hid (Below w.heap.size w wr) ∧ Hid (Nd tt ∧ ∀ x ∈ tt, Lt V x) ∧ Hid (followsP cs (N - n) tt = pp)) (fun _ v7 _ => N - (intOf v7).toNat)
  case atStart => exact ⟨0, g1, cap1, t, by simp, rfl, Nat.zero_le _, HO1, HB1, ⟨HND.out, HT.out⟩, HPP⟩
  case round =>
    clear HO1 HB1 HPP HND HT HS
    obtain ⟨n, g, cap, tt, rfl, rfl, hn, HO, HB, HNT, HF⟩ := hrel
    have httl := nd_len HNT.out.1 HNT.out.2
    by_cases hlt : n < N
    · have hn1 : (n : Int) ≤ 100000 := by omega
      have HF2 := HF.out
      rw [show N - n = (N - (n + 1)) + 1 by omega, follows_succ] at HF2
      obtain ⟨hn0, hrow, hmx⟩ := own_row3 HO.out
      have HROW := hide hrow
      have HF3 := hide HF2
      have HMX := hide hmx
      clear HF HF2 hn0 hrow hmx
      go_wp2_with fail
      go_loopw [8, 9] (fun v8 v9 wr2 => ∃ (k : Nat) (nx : Int), v8 = .int .i64 nx ∧ v9 = .int .i64 k ∧ k ≤ cs.length ∧ Hid (nextP tt (cs.drop k) nx = nextP tt cs 0) ∧ wr2 = wr) (fun _ v9 _ => cs.length - (intOf v9).toNat)
      case atStart => exact ⟨0, 0, rfl, rfl, Nat.zero_le _, rfl, rfl⟩
      case round =>
        obtain ⟨k, nx, rfl, rfl, hk, HNX, hw2⟩ := hrel
        subst hw2
        by_cases hlt2 : k < cs.length
        · obtain ⟨bb, off, ai, ci, rfl, hbb, hcell, hri, hli⟩ := HG.out.below HB.out k hlt2
          have hki : (k : Int) < cs.length := by omega
          have hcx := HX.out cs[k] (List.getElem_mem hlt2)
          have hbd : ∀ x ∈ cs[k], -1048576 ≤ x ∧ x ≤ 1048576 := fun x hx => by have := hcx.2 x hx; unfold Lt at this; omega
          have BR := refBroken_any ai (some ⟨g, 0, none⟩) ci cap cs[k] tt wr hri HROW.out (by omega) HMX.out hbd
          have UN := refUnit_any ai (some ⟨g, 0, none⟩) ci cap cs[k] tt wr hri HROW.out (by omega) HMX.out hbd
          have HNX2 := HNX.out
          rw [List.drop_eq_getElem_cons hlt2, nextP_cons] at HNX2
          clear HNX hri hli hcx hbd
          generalize cs[k] = c at *
          cases hA : brokenP tt c with
          | true =>
            rw [hA] at BR
            rw [if_pos hA] at HNX2
            replace BR := hide BR
            have HP : Hid (pp = (tt, true)) := by unfold Hid; rw [← HF3.out, ← HNX2]
            clear UN HNX2 HF3 hA
            go_wp2_with (go_at_call 49; refine (unhide BR).mono ?_; rintro e w0 ⟨rfl, hw0⟩; subst w0)
            go_ret2
            rw [HP.out]
            exact ⟨_, _, rfl, HROW.out, HMX.out, HB.out⟩
          | false =>
            rw [hA] at BR
            rw [if_neg (by simp [hA])] at HNX2
            replace BR := hide BR
            by_cases hD : nx = 0
            · rw [if_pos hD] at HNX2
              replace HNX2 := hide HNX2
              replace UN := hide UN
              subst hD
              generalize unitR tt c 0 = uu at *
              go_wp2_with (first | (go_at_call 49; refine (unhide BR).mono ?_; rintro e w0 ⟨rfl, hw0⟩; subst w0) | (go_at_call 50; refine (unhide UN).mono ?_; rintro e w0 ⟨rfl, hw0⟩; subst w0))
              go_roundw
              case rel => exact ⟨k + 1, uu, rfl, by go_num, by omega, HNX2, by trivial⟩
              case measure => simp [intOf]; omega
            · rw [if_neg hD] at HNX2
              replace HNX2 := hide HNX2
              have hD' : (nx == 0) = false := by simpa using hD
              clear hD UN
              go_wp2_with (go_at_call 49; refine (unhide BR).mono ?_; rintro e w0 ⟨rfl, hw0⟩; subst w0)
              go_roundw
              case rel => exact ⟨k + 1, nx, rfl, by go_num, by omega, HNX2, by trivial⟩
              case measure => simp [intOf]; omega
        · have hkl : cs.drop k = [] := List.drop_eq_nil_of_le (by omega)
          have HN2 : nextP tt cs 0 = some nx := by rw [← HNX.out, hkl]; rfl
          have HF4 := HF3.out
          rw [HN2] at HF4
          simp only at HF4
          clear HNX hkl HF3
          by_cases hD : nx = 0
          · rw [if_pos hD] at HF4
            have HP : Hid (pp = (tt, false)) := HF4.symm
            have hD' : (nx == 0) = true := by simpa using hD
            clear hD HF4 HN2
            go_wp2
            go_ret2
            rw [HP.out]
            exact ⟨_, _, rfl, HROW.out, HMX.out, HB.out⟩
          · rw [if_neg hD] at HF4
            have hD' : (nx == 0) = false := by simpa using hD
            obtain ⟨g1', g2'⟩ := next_good HX.out HNT.out.2 HNT.out.1 HN2 hD
            have HF5 := hide HF4
            have HNT2 : Hid (Nd (tt ++ [nx]) ∧ ∀ x ∈ tt ++ [nx], Lt V x) := ⟨g1', g2'⟩
            have hlt' := hide hlt
            have HBs := HB.out.size
            clear hD HF4 HN2 g1' g2'
            have ho1 := HO.out
            go_wp2_with (at_builtin; refine wpList_append_lies _ rfl _ _ 25 rfl w.heap.size 3 i0 (.int .i64 0) 1 8 Tryz.underlying25 hi hz0 hz1 hz2 rfl (by decide) _ tt.length _ rfl (ho1.alloc _) ⟨wr.heap.size, 0, none⟩ 1 1 [.int .i64 nx] rfl rfl (World.news_of_block (cs := #[.int .i64 nx]) (heap_alloc_new wr _)) (by simp [Value.oneCell']) (by decide) (by unfold maxLen; omega) (by omega) (by simp; omega) (wr.heap.size + 1) (by simp) ?_; intro g3 cap3 w3 ho3 hgr3 hat3 hlt3)
            have hb3 : Below w.heap.size w w3 := (HB.out.alloc HBs _).grown hgr3 (by simp; omega) (fun k e => by have := (World.ownsRow.lt HO.out k e).1; omega)
            go_roundw
            case rel => exact ⟨n + 1, g3, cap3, tt ++ [nx], by simp, by go_num, hlt'.out, by (unfold Hid; rw [List.length_append]; simpa [intC] using ho3), hb3, HNT2, HF5⟩
            case measure => (have h31 := hlt'.out; simp [intOf]; omega)
    · have hn1 : ¬ (n : Int) ≤ 100000 := by omega
      have HP : Hid (pp = (tt, false)) := by unfold Hid; rw [← HF.out, show N - n = 0 by omega]; rfl
      obtain ⟨hn0, hrow, hmx⟩ := own_row3 HO.out
      have HROW := hide hrow
      have HMX := hide hmx
      clear HF hn0 hrow hmx
      go_wp2
      go_ret2
      rw [HP.out]
      exact ⟨_, _, rfl, HROW.out, HMX.out, HB.out⟩
end Go.Proofs.YtlmbgaconjcaiaaGreat

namespace Go.Proofs.YtlmbgaconjcaiaaGreat
open Go.RowKit

set_option maxHeartbeats 40000000 in
set_option maxRecDepth 100000 in
theorem refFollows_wide (a b : Option Addr) (ca cb : Nat) (cs : List (List Int)) (t : List Int) (V : Nat) (w : World) (hg : Grid w a cs) (hs : Row w b t) (hbn : b = none → cb = 0) (hcl : cs.length ≤ 1048576) (hV : V ≤ 1048576) (hx : ∀ c ∈ cs, c.length ≤ 10000 ∧ ∀ x ∈ c, Lt V x) (htl : t.length ≤ 1000000) :
    Calls Tryz.prog 30 #[.slice a cs.length ca, .slice b t.length cb] w fun e w' => FolQ w (followsP cs 100001 t) e w' := by
  obtain ⟨N, hN⟩ : ∃ N : Nat, N = 100001 := ⟨_, rfl⟩
  rw [← hN]
  generalize hpp : followsP cs N t = pp
  have HPP := hide hpp
  clear hpp
  obtain ⟨i0, hi, hz0, hz1, hz2⟩ := info_parts Tryz.info3
  have HG := hide hg
  have HS := hide hs
  have HX := hide hx
  have hsrc : (b = none ∧ t.length = 0 ∧ cb = 0 ∧ intC t = []) ∨ ∃ ad, b = some ad ∧ (intC t).length = t.length * 1 ∧ ∀ j u, (intC t)[j]? = some u → (w.alloc (.cells #[] 3)).cell? (ad.add j) = some u := by
    rcases hq : b with _ | ad
    · left
      have h0 : t = [] := by
        cases t with
        | nil => rfl
        | cons x r => obtain ⟨b', off, e, _⟩ := hs 0 (by simp); rw [hq] at e; cases e
      subst h0
      exact ⟨rfl, rfl, hbn hq, rfl⟩
    · right
      refine ⟨ad, rfl, by simp [intC], fun j u hj => ?_⟩
      have hjl : j < t.length := by have := (List.getElem?_eq_some_iff.1 hj).1; simpa [intC] using this
      obtain ⟨b', off, e, hb', hc'⟩ := hs j hjl
      rw [hq] at e
      simp at e
      subst e
      rw [intC_get (List.getElem?_eq_getElem hjl)] at hj
      cases hj
      have := (World.cell?_of_block (a := ⟨b', off + j, none⟩) (heap_alloc_old w (.cells #[] 3) hb')).trans hc'
      rw [Addr.add_lit]; exact this
  have hone : ∀ u ∈ intC t, u.oneCell' = true := by intro u hu; simp only [intC, List.mem_map] at hu; obtain ⟨i, _, rfl⟩ := hu; rfl
  have HSRC := hide hsrc
  have HONE := hide hone
  clear hg hs hx hsrc hone hbn
  go_enter Tryz.func30, Tryz.ntmps30
  go_wp2_with (at_builtin; refine wpList_append_any rfl (.tmp 10) (.tmp 11) 25 rfl w.heap.size 3 i0 (.int .i64 0) 1 8 Tryz.underlying25 hi hz0 hz1 hz2 rfl (by decide) (.slice (some ⟨w.heap.size, 0, none⟩) 0 0) 0 [] rfl (own_lit0 w w.heap.size (Nat.le_refl _)) (by simp) b t.length cb (intC t) rfl HSRC.out HONE.out (by unfold maxLen; omega) (by omega) (by simp) ?_; intro g1 cap1 w1 ho1 hgr1 hat1 hlt1)
  simp only [Nat.zero_add, List.nil_append] at ho1
  have hb1 : Below w.heap.size w w1 := (below_alloc w (.cells #[] 3)).grown hgr1 (by simp) (fun k e => by simp [Value.ownBlock] at e; omega)
  have HO1 := hide ho1
  have HB1 := hide hb1
  clear ho1 hgr1 hat1 hlt1 hb1 HSRC HONE
  go_loopw [6, 7] (fun v6 v7 wr => ∃ (n g cap : Nat) (tt : List Int), v6 = .slice (some ⟨g, 0, none⟩) tt.length cap ∧ v7 = .int .i64 n ∧ n ≤ N ∧ Hid (wr.ownsRow w.heap.size 3 1 (.slice (some ⟨g, 0, none⟩) tt.length cap) tt.length (intC tt)) ∧ Hid (Below w.heap.size w wr) ∧ Hid (tt.length ≤ t.length + n) ∧ Hid (followsP cs (N - n) tt = pp)) (fun _ v7 _ => N - (intOf v7).toNat)
  case atStart => exact ⟨0, g1, cap1, t, by simp, rfl, Nat.zero_le _, HO1, HB1, Nat.le_refl _, HPP⟩
  case round =>
    clear HO1 HB1 HPP HS
    obtain ⟨n, g, cap, tt, rfl, rfl, hn, HO, HB, HNT, HF⟩ := hrel
    have httl : tt.length ≤ 1100001 := by have := HNT.out; omega
    by_cases hlt : n < N
    · have hn1 : (n : Int) ≤ 100000 := by omega
      have HF2 := HF.out
      rw [show N - n = (N - (n + 1)) + 1 by omega, follows_succ] at HF2
      obtain ⟨hn0, hrow, hmx⟩ := own_row3 HO.out
      have HROW := hide hrow
      have HF3 := hide HF2
      have HMX := hide hmx
      clear HF HF2 hn0 hrow hmx
      go_wp2_with fail
      go_loopw [8, 9] (fun v8 v9 wr2 => ∃ (k : Nat) (nx : Int), v8 = .int .i64 nx ∧ v9 = .int .i64 k ∧ k ≤ cs.length ∧ Hid (nextP tt (cs.drop k) nx = nextP tt cs 0) ∧ wr2 = wr) (fun _ v9 _ => cs.length - (intOf v9).toNat)
      case atStart => exact ⟨0, 0, rfl, rfl, Nat.zero_le _, rfl, rfl⟩
      case round =>
        obtain ⟨k, nx, rfl, rfl, hk, HNX, hw2⟩ := hrel
        subst hw2
        by_cases hlt2 : k < cs.length
        · obtain ⟨bb, off, ai, ci, rfl, hbb, hcell, hri, hli⟩ := HG.out.below HB.out k hlt2
          have hki : (k : Int) < cs.length := by omega
          have hcx := HX.out cs[k] (List.getElem_mem hlt2)
          have hbd : ∀ x ∈ cs[k], -1048576 ≤ x ∧ x ≤ 1048576 := fun x hx => by have := hcx.2 x hx; unfold Lt at this; omega
          have BR := refBroken_any ai (some ⟨g, 0, none⟩) ci cap cs[k] tt wr hri HROW.out (by omega) HMX.out hbd
          have UN := refUnit_any ai (some ⟨g, 0, none⟩) ci cap cs[k] tt wr hri HROW.out (by omega) HMX.out hbd
          have HNX2 := HNX.out
          rw [List.drop_eq_getElem_cons hlt2, nextP_cons] at HNX2
          clear HNX hri hli hcx hbd
          generalize cs[k] = c at *
          cases hA : brokenP tt c with
          | true =>
            rw [hA] at BR
            rw [if_pos hA] at HNX2
            replace BR := hide BR
            have HP : Hid (pp = (tt, true)) := by unfold Hid; rw [← HF3.out, ← HNX2]
            clear UN HNX2 HF3 hA
            go_wp2_with (go_at_call 49; refine (unhide BR).mono ?_; rintro e w0 ⟨rfl, hw0⟩; subst w0)
            go_ret2
            rw [HP.out]
            exact ⟨_, _, rfl, HROW.out, HMX.out, HB.out⟩
          | false =>
            rw [hA] at BR
            rw [if_neg (by simp [hA])] at HNX2
            replace BR := hide BR
            by_cases hD : nx = 0
            · rw [if_pos hD] at HNX2
              replace HNX2 := hide HNX2
              replace UN := hide UN
              subst hD
              generalize unitR tt c 0 = uu at *
              go_wp2_with (first | (go_at_call 49; refine (unhide BR).mono ?_; rintro e w0 ⟨rfl, hw0⟩; subst w0) | (go_at_call 50; refine (unhide UN).mono ?_; rintro e w0 ⟨rfl, hw0⟩; subst w0))
              go_roundw
              case rel => exact ⟨k + 1, uu, rfl, by go_num, by omega, HNX2, by trivial⟩
              case measure => simp [intOf]; omega
            · rw [if_neg hD] at HNX2
              replace HNX2 := hide HNX2
              have hD' : (nx == 0) = false := by simpa using hD
              clear hD UN
              go_wp2_with (go_at_call 49; refine (unhide BR).mono ?_; rintro e w0 ⟨rfl, hw0⟩; subst w0)
              go_roundw
              case rel => exact ⟨k + 1, nx, rfl, by go_num, by omega, HNX2, by trivial⟩
              case measure => simp [intOf]; omega
        · have hkl : cs.drop k = [] := List.drop_eq_nil_of_le (by omega)
          have HN2 : nextP tt cs 0 = some nx := by rw [← HNX.out, hkl]; rfl
          have HF4 := HF3.out
          rw [HN2] at HF4
          simp only at HF4
          clear HNX hkl HF3
          by_cases hD : nx = 0
          · rw [if_pos hD] at HF4
            have HP : Hid (pp = (tt, false)) := HF4.symm
            have hD' : (nx == 0) = true := by simpa using hD
            clear hD HF4 HN2
            go_wp2
            go_ret2
            rw [HP.out]
            exact ⟨_, _, rfl, HROW.out, HMX.out, HB.out⟩
          · rw [if_neg hD] at HF4
            have hD' : (nx == 0) = false := by simpa using hD
            have HF5 := hide HF4
            have HNT2 : Hid ((tt ++ [nx]).length ≤ t.length + (n + 1)) := by have := HNT.out; unfold Hid; simp; omega
            have hlt' := hide hlt
            have HBs := HB.out.size
            clear hD HF4 HN2
            have ho1 := HO.out
            go_wp2_with (at_builtin; refine wpList_append_lies _ rfl _ _ 25 rfl w.heap.size 3 i0 (.int .i64 0) 1 8 Tryz.underlying25 hi hz0 hz1 hz2 rfl (by decide) _ tt.length _ rfl (ho1.alloc _) ⟨wr.heap.size, 0, none⟩ 1 1 [.int .i64 nx] rfl rfl (World.news_of_block (cs := #[.int .i64 nx]) (heap_alloc_new wr _)) (by simp [Value.oneCell']) (by decide) (by unfold maxLen; omega) (by omega) (by simp; omega) (wr.heap.size + 1) (by simp) ?_; intro g3 cap3 w3 ho3 hgr3 hat3 hlt3)
            have hb3 : Below w.heap.size w w3 := (HB.out.alloc HBs _).grown hgr3 (by simp; omega) (fun k e => by have := (World.ownsRow.lt HO.out k e).1; omega)
            go_roundw
            case rel => exact ⟨n + 1, g3, cap3, tt ++ [nx], by simp, by go_num, hlt'.out, by (unfold Hid; rw [List.length_append]; simpa [intC] using ho3), hb3, HNT2, HF5⟩
            case measure => (have h31 := hlt'.out; simp [intOf]; omega)
    · have hn1 : ¬ (n : Int) ≤ 100000 := by omega
      have HP : Hid (pp = (tt, false)) := by unfold Hid; rw [← HF.out, show N - n = 0 by omega]; rfl
      obtain ⟨hn0, hrow, hmx⟩ := own_row3 HO.out
      have HROW := hide hrow
      have HMX := hide hmx
      clear HF hn0 hrow hmx
      go_wp2
      go_ret2
      rw [HP.out]
      exact ⟨_, _, rfl, HROW.out, HMX.out, HB.out⟩
end Go.Proofs.YtlmbgaconjcaiaaGreat

namespace Go.Proofs.YtlmbgaconjcaiaaGreat
open Go.RowKit

set_option maxHeartbeats 400000 in
theorem refTaut_any (a : Option Addr) (cap : Nat) (xs : List Int) (w : World) (hr : Row w a xs) (hl : xs.length ≤ maxLen) (hx : ∀ x ∈ xs, -1048576 ≤ x ∧ x ≤ 1048576) :
    Calls Tryz.prog 29 #[.slice a xs.length cap] w fun e w' => e = .returned (.bool (tautB xs)) ∧ w' = w := by
  have CH : Hid (∀ n, Calls Tryz.prog 31 #[.slice a xs.length cap, .int .i64 n] w fun e w' => e = .returned (.bool (hasB xs n)) ∧ w' = w) := fun n => has_any a cap xs n w hr hl
  have HX := hide hx
  clear hx
  unfold maxLen at hl
  go_enter Tryz.func29, Tryz.ntmps29
  go_wp2
  go_loop [3] (fun i => ∃ k : Nat, k ≤ xs.length ∧ i = .int .i64 k ∧ Hid ((xs.take k).any (fun x => hasB xs (-x)) = false)) (fun i => xs.length - (intOf i).toNat)
  case atStart => exact ⟨0, Nat.zero_le _, rfl, rfl⟩
  case round =>
    obtain ⟨k, hk, rfl, HN⟩ := hrel
    by_cases hlt : k < xs.length
    · obtain ⟨b, off, rfl, hb, hc⟩ := hr k hlt
      clear hr
      have hxb := HX.out xs[k] (List.getElem_mem hlt)
      obtain ⟨hx1, hx2⟩ := hxb
      have CK := CH.out (-xs[k])
      cases he : hasB xs (-xs[k]) with
      | true =>
        rw [he] at CK
        replace CK := hide CK
        have HT : Hid (tautB xs = true) := any_true_at _ xs k hlt he
        clear he CH
        generalize xs[k] = x at *
        go_wp2_with (go_at_call 31; refine (unhide CK).mono ?_; rintro e w0 ⟨rfl, hw0⟩; subst w0)
        go_ret
        exact ⟨ret_bool HT.out.symm, rfl⟩
      | false =>
        rw [he] at CK
        replace CK := hide CK
        have HT : Hid ((xs.take (k + 1)).any (fun x => hasB xs (-x)) = false) := any_take_snoc _ xs k hlt HN.out he
        clear he CH
        generalize xs[k] = x at *
        go_wp2_with (go_at_call 31; refine (unhide CK).mono ?_; rintro e w0 ⟨rfl, hw0⟩; subst w0)
        go_round
        case rel => exact ⟨k + 1, by omega, by go_num, HT⟩
        case measure => simp [intOf]; omega
    · have hz : k = xs.length := by omega
      clear hr
      go_wp2
      go_ret
      exact ⟨ret_bool (by have h := HN.out; rw [hz, List.take_length] at h; exact h.symm), rfl⟩

/-- At hand by units, as the document has it. -/
def refU (css : List (List Int)) (c : List Int) : Bool := tautB c || (followsP css 100001 (c.map (fun x => -x))).2

set_option maxHeartbeats 4000000 in
set_option maxRecDepth 100000 in
theorem refUnit7_any (a b : Option Addr) (ca cb : Nat) (css : List (List Int)) (c : List Int) (V : Nat) (w : World) (hg : Grid w a css) (hs : Row w b c) (hcl : css.length ≤ 1048576) (hV : V ≤ 1048576) (hx : ∀ c ∈ css, c.length ≤ 10000 ∧ ∀ x ∈ c, Lt V x) (hl : c.length ≤ 10000) (hc : ∀ x ∈ c, -1048576 ≤ x ∧ x ≤ 1048576) :
    Calls Tryz.prog 13 #[.slice a css.length ca, .slice b c.length cb] w fun e w' => e = .returned (.bool (refU css c)) ∧ Below w.heap.size w w' := by
  have CT := refTaut_any b cb c w hs (by unfold maxLen; omega) hc
  obtain ⟨i0, hi, hz0, hz1, hz2⟩ := info_parts Tryz.info3
  cases ht : tautB c with
  | true =>
    rw [ht] at CT
    replace CT := hide CT
    have HU : Hid (refU css c = true) := by unfold Hid refU; rw [ht]; rfl
    clear hg hs hx hc ht
    go_enter Tryz.func13, Tryz.ntmps13
    go_wp2_with (go_at_call 29; refine (unhide CT).mono ?_; rintro e w0 ⟨rfl, hw0⟩; subst w0)
    go_ret
    exact ⟨ret_bool HU.out.symm, Below.refl _ _⟩
  | false =>
    rw [ht] at CT
    replace CT := hide CT
    have HU : Hid (refU css c = (followsP css 100001 (c.map (fun x => -x))).2) := by unfold Hid refU; rw [ht]; rfl
    have HG := hide hg
    have HS := hide hs
    have HX := hide hx
    have HC := hide hc
    clear hg hs hx hc ht
    go_enter Tryz.func13, Tryz.ntmps13
    go_wp2_with (go_at_call 29; refine (unhide CT).mono ?_; rintro e w0 ⟨rfl, hw0⟩; subst w0)
    go_loopw [5, 6] (fun v i wr => ∃ k : Nat, k ≤ c.length ∧ i = .int .i64 k ∧ Own w.heap.size wr v ((c.take k).map (fun x => -x)) ∧ v ≠ .slice none 0 0 ∧ Below w.heap.size w wr) (fun _ i _ => c.length - (intOf i).toNat)
    case atStart => exact ⟨0, Nat.zero_le _, rfl, World.ownsRow_lit (e := 3) (size := 1) w #[] 0 (Nat.le_refl _) (Nat.zero_le _) rfl, (by simp), (Below.refl _ _).alloc (Nat.le_refl _) _⟩
    case round =>
      obtain ⟨k, hk, rfl, hown, hnn, hbel⟩ := hrel
      clear CT
      by_cases hlt : k < c.length
      · obtain ⟨b1, off, rfl, hb, hc1⟩ := HS.out k hlt
        have hc' := (hbel.cell (p := ⟨b1, off + k, none⟩) hb).trans hc1
        have hxb := HC.out c[k] (List.getElem_mem hlt)
        obtain ⟨hx1, hx2⟩ := hxb
        have hwl : ((c.take k).map (fun x => -x)).length ≤ k := by simp; omega
        have HE : Hid ((c.take (k + 1)).map (fun x => -x) = (c.take k).map (fun x => -x) ++ [-c[k]]) := by unfold Hid; rw [List.take_succ_eq_append_getElem hlt, List.map_append]; rfl
        clear hc1 hb
        generalize c[k] = x at *
        go_wp2_with (at_builtin; refine wpList_append_own _ rfl _ _ 25 rfl w.heap.size 3 i0 (.int .i64 0) 1 8 Tryz.underlying25 hi hz0 hz1 hz2 rfl (by decide) _ _ _ rfl (hown.alloc _) ⟨wr.heap.size, 0, none⟩ 1 1 [.int .i64 (-x)] rfl rfl (cell_one_new _ _ _) (fun y hy => by simp at hy; subst hy; rfl) (by unfold maxLen; omega) (by omega) (by have := hbel.size; simp; omega) ?_; intro v' w2 hown2 hgrow2 hnil)
        have hnn2 : v' ≠ .slice none 0 0 := fun h => absurd (hnil.1 h).2 (by decide)
        have hown3 := own_snoc hown2 HE.out
        have hbel3 := ((hbel.alloc hbel.size (.cells #[.int .i64 (-x)] 3)).grown hgrow2 (by have := hbel.size; simp; omega) (fun g hg => (hown.lt g hg).1))
        clear hown2 hgrow2 hnil
        go_wp2
        go_roundw
        case rel => exact ⟨k + 1, by omega, by go_num, hown3, hnn2, hbel3⟩
        case measure => simp [intOf]; omega
      · obtain rfl : k = c.length := by omega
        rw [List.take_length] at hown
        obtain ⟨a2, cap2, rfl, hrow2, _⟩ := hown.row
        have hbn : a2 = none → cap2 = 0 := fun e => by
          obtain ⟨a3, cap3, e3, _, _, h3⟩ := own_form hown
          simp at e3
          obtain ⟨rfl, rfl⟩ := e3
          rcases h3 with ⟨_, _, h4⟩ | ⟨g, h4, _⟩
          · exact h4
          · rw [e] at h4; cases h4
        have CF := refFollows_wide a a2 ca cap2 css (c.map (fun x => -x)) V wr (HG.out.below hbel) hrow2 hbn hcl hV HX.out (by simp; omega)
        replace CF := hide CF
        have HB := hide hbel
        clear hown hrow2 hbel hnn
        generalize c.map (fun x => -x) = t at *
        generalize hpp : followsP css 100001 t = pp at *
        clear hpp
        go_wp2_with (go_at_call 30; refine (unhide CF).mono ?_; rintro e w3 ⟨a4, cap4, rfl, _, _, hb3⟩)
        go_ret
        exact ⟨ret_bool HU.out.symm, HB.out.trans (hb3.mono HB.out.size)⟩
end Go.Proofs.YtlmbgaconjcaiaaGreat

namespace Go.Proofs.YtlmbgaconjcaiaaGreat
open Go.RowKit

/-- One clause, as the document has it. -/
def refF1 (css : List (List Int)) (c : List Int) (l : Int) (d : List Int) : Bool := !hasB d l || (decide (c.length + (wo d l).length ≤ 4096) && refU css (c ++ wo d l))
/-- At hand by the first literal, as the document has it. -/
def refF (css : List (List Int)) (c : List Int) : Bool := match c with
  | [] => false
  | l0 :: _ => css.all (refF1 css c (-l0))

/-- A row of numbers is a source of an append. -/
theorem row_src {w : World} {a : Option Addr} {cap : Nat} {xs : List Int} (h : Row w a xs) (hn : a = none → cap = 0) : (a = none ∧ xs.length = 0 ∧ cap = 0 ∧ intC xs = []) ∨ ∃ ad, a = some ad ∧ (intC xs).length = xs.length * 1 ∧ ∀ j u, (intC xs)[j]? = some u → w.cell? (ad.add j) = some u := by
  cases ha : a with
  | none =>
    left
    have h0 : xs = [] := by
      cases xs with
      | nil => rfl
      | cons x r => obtain ⟨b', off, e, _⟩ := h 0 (by simp); rw [ha] at e; cases e
    subst h0
    exact ⟨rfl, rfl, hn ha, rfl⟩
  | some ad =>
    right
    refine ⟨ad, rfl, by simp [intC], fun j u hj => ?_⟩
    have hjl : j < xs.length := by have := (List.getElem?_eq_some_iff.1 hj).1; simpa [intC] using this
    obtain ⟨b', off, e, hb', hc'⟩ := h j hjl
    rw [ha] at e
    simp at e
    subst e
    rw [intC_get (List.getElem?_eq_getElem hjl)] at hj
    cases hj
    rw [Addr.add_lit]; exact hc'
theorem intC_one (xs : List Int) : ∀ u ∈ intC xs, u.oneCell' = true := by intro u hu; simp only [intC, List.mem_map] at hu; obtain ⟨i, _, rfl⟩ := hu; rfl

/-- A clause and another one's rest, in memory of the call's own. -/
def JoinP (w : World) (c R : List Int) (v : Value) (wx : World) : Prop := ∃ g cap, v = .slice (some ⟨g, 0, none⟩) (c.length + R.length) cap ∧ Row wx (some ⟨g, 0, none⟩) (c ++ R) ∧ Below w.heap.size w wx

theorem join_fin {w0 W w9 : World} {g1 cap1 g9 cap9 : Nat} {c R : List Int} (hB : Below w0.heap.size w0 W) (ho1 : W.ownsRow w0.heap.size 3 1 (.slice (some ⟨g1, 0, none⟩) c.length cap1) c.length (intC c)) (hgr : W.grownBy w9 (Value.ownBlock (.slice (some ⟨g1, 0, none⟩) c.length cap1)))
    (ho9 : w9.ownsRow w0.heap.size 3 1 (.slice (some ⟨g9, 0, none⟩) (c.length + R.length) cap9) (c.length + R.length) (intC c ++ R.map (Value.int .i64))) : JoinP w0 c R (.slice (some ⟨g9, 0, none⟩) (c.length + R.length) cap9) w9 := by
  have hb9 : Below w0.heap.size w0 w9 := hB.grown hgr hB.size (fun b e => (World.ownsRow.lt ho1 b e).1)
  have e1 : (intC c ++ R.map (Value.int .i64) : List Value) = (c ++ R).map (Value.int .i64) := by simp [intC]
  have e2 : c.length + R.length = (c ++ R).length := by simp
  rw [e1, e2] at ho9
  obtain ⟨a', cap', e, hr, _⟩ := Own.row (base := w0.heap.size) ho9
  simp at e
  obtain ⟨rfl, rfl⟩ := e
  exact ⟨g9, cap9, rfl, hr, hb9⟩

theorem join_bel {w wx : World} {c R : List Int} {v : Value} (h : JoinP w c R v wx) : Below w.heap.size w wx := by obtain ⟨_, _, _, _, hb⟩ := h; exact hb
theorem own_e2 {W0 w3 : World} (h : (W0.alloc (.cells #[] 3)).drew.ownsRow W0.heap.size 3 1 (.slice (some ⟨W0.heap.size, 0, none⟩) 0 0) 0 []) (hB : Below (W0.alloc (.cells #[] 3)).drew.heap.size (W0.alloc (.cells #[] 3)).drew w3) : w3.ownsRow W0.heap.size 3 1 (.slice (some ⟨W0.heap.size, 0, none⟩) 0 0) 0 [] :=
  own_same h (fun b hb => hB.block b (World.ownsRow.lt h b hb).2)
theorem own_after {W0 w1 w3 : World} {v : Value} {n : Nat} {xs : List Value} (h : w1.ownsRow W0.heap.size 3 1 v n xs) (hB : Below w1.heap.size w1 w3) : w3.ownsRow W0.heap.size 3 1 v n xs :=
  own_same h (fun b hb => hB.block b (World.ownsRow.lt h b hb).2)
theorem src2 {W0 w3 w1 : World} {g5 cap5 : Nat} {R : List Int} (h : Own (W0.alloc (.cells #[] 3)).drew.heap.size w3 (.slice (some ⟨g5, 0, none⟩) R.length cap5) R) (hg : w3.grownBy w1 (Value.ownBlock (.slice (some ⟨W0.heap.size, 0, none⟩) 0 0))) : w1.ownsRow (W0.alloc (.cells #[] 3)).drew.heap.size 3 1 (.slice (some ⟨g5, 0, none⟩) R.length cap5) R.length (R.map (Value.int .i64)) :=
  World.ownsRow.kept h hg (.inr (fun e => by
    have := (World.ownsRow.lt h g5 rfl).1
    simp [Value.ownBlock] at e
    simp at this
    omega))
theorem src3 {base : Nat} {w3 w1 : World} {g5 cap5 : Nat} {R : List Int} (h : Own base w3 (.slice (some ⟨g5, 0, none⟩) R.length cap5) R) (hg : (w3.alloc (.cells #[] 3)).grownBy w1 (Value.ownBlock (.slice (some ⟨w3.heap.size, 0, none⟩) 0 0))) : w1.ownsRow base 3 1 (.slice (some ⟨g5, 0, none⟩) R.length cap5) R.length (R.map (Value.int .i64)) :=
  World.ownsRow.kept (World.ownsRow.alloc h (.cells #[] 3)) hg (.inr (fun e => by
    have := (World.ownsRow.lt h g5 rfl).2
    simp [Value.ownBlock] at e
    omega))

set_option maxHeartbeats 4000000 in
set_option maxRecDepth 100000 in
theorem refFirst7_any (a b : Option Addr) (ca cb : Nat) (css : List (List Int)) (c : List Int) (V : Nat) (w : World) (hg : Grid w a css) (hs : Row w b c) (hcl : css.length ≤ 1048576) (hV : V ≤ 1048576) (hx : ∀ c ∈ css, c.length ≤ 4096 ∧ ∀ x ∈ c, Lt V x) (hl : c.length ≤ 4096) (hc : ∀ x ∈ c, -1048576 ≤ x ∧ x ≤ 1048576) :
    Calls Tryz.prog 14 #[.slice a css.length ca, .slice b c.length cb] w fun e w' => e = .returned (.bool (refF css c)) ∧ Below w.heap.size w w' := by
  obtain ⟨i0, hi, hz0, hz1, hz2⟩ := info_parts Tryz.info3
  cases hcc : c with
  | nil =>
    go_enter Tryz.func14, Tryz.ntmps14
    go_wp2
    go_ret
    exact ⟨rfl, Below.refl _ _⟩
  | cons l0 r =>
    have hrf : refF css (l0 :: r) = css.all (refF1 css c (-l0)) := by rw [hcc]; rfl
    rw [← hcc] at hrf ⊢
    have HRF := hide hrf
    have hcpos : 0 < c.length := by rw [hcc]; simp
    have hc0 : c[0] = l0 := by simp [hcc]
    have hlb := hc l0 (by rw [hcc]; simp)
    obtain ⟨hlb1, hlb2⟩ := hlb
    have hz0' : ((c.length : Int) == 0) = false := by
      rw [hcc]; simp; omega
    obtain ⟨bb, off, rfl, hbb, hcell⟩ := hs 0 hcpos
    rw [hc0, Nat.add_zero] at hcell
    have hci : (0 : Int) < c.length := by omega
    have HG := hide hg
    have HS := hide hs
    have HX := hide hx
    have HC := hide hc
    clear hg hs hx hc hcc hrf
    go_enter Tryz.func14, Tryz.ntmps14
    go_wp2
    go_loopw [5] (fun j wr => ∃ k : Nat, k ≤ css.length ∧ j = .int .i64 (k : Int) ∧ Hid ((css.take k).all (refF1 css c (-l0)) = true) ∧ Hid (Below w.heap.size w wr)) (fun j _ => css.length - (intOf j).toNat)
    case atStart => exact ⟨0, Nat.zero_le _, rfl, rfl, Below.refl _ _⟩
    case round =>
      obtain ⟨k, hk, rfl, HA, HB⟩ := hrel
      by_cases hlt : k < css.length
      · have hii : (k : Int) < css.length := by omega
        obtain ⟨gb, goff, ai, ci, rfl, hgb, hgc, hri, hli⟩ := (HG.out.below HB.out) k hlt
        have hdx := HX.out css[k] (List.getElem_mem hlt)
        have c0 : wr.cell? ⟨bb, off, none⟩ = some (.int .i64 l0) := (HB.out.cell (p := ⟨bb, off, none⟩) hbb).trans hcell
        have HT : Hid ((css.take (k + 1)).all (refF1 css c (-l0)) = refF1 css c (-l0) css[k]) := by unfold Hid; rw [List.take_succ_eq_append_getElem hlt, List.all_append, HA.out]; simp
        have HDR : Hid (refF1 css c (-l0) css[k] = false → css.all (refF1 css c (-l0)) = false) := fun h => by
          rw [List.all_eq_false]
          exact ⟨css[k], List.getElem_mem hlt, by rw [h]; simp⟩
        have CH : Hid (∀ m, Calls Tryz.prog 31 #[.slice ai css[k].length ci, .int .i64 (-l0)] (wr.drewN m) fun e w' => e = .returned (.bool (hasB css[k] (-l0))) ∧ w' = wr.drewN m) := fun m => has_any ai ci css[k] (-l0) (wr.drewN m) hri hli
        generalize css[k] = d at *
        cases hh : hasB d (-l0) with
        | false =>
          have HF : Hid (refF1 css c (-l0) d = true) := by unfold Hid refF1; rw [hh]; rfl
          rw [hh] at CH
          clear hh hri
          go_wp2
          go_quiet ((go_at_call 31; exact Calls.quiet_of_same (unhide CH _)))
          go_wp2
          go_roundw
          case rel => exact ⟨k + 1, by omega, by go_num, by unfold Hid; rw [HT.out, HF.out], bquiet HB.out _⟩
          case measure => simp [intOf]; omega
        | true =>
          rw [hh] at CH
          go_wp2
          go_quiet ((go_at_call 31; exact Calls.quiet_of_same (unhide CH _)))
          go_upto_region 7 with fail
          refine forget (P := fun W => Code.wp Tryz.prog _ _ _ W) (fun W => Hid (Below wr.heap.size wr W)) (bquiet (Below.refl _ _) _) ?_
          intro W0 HW0
          have s0 := (HW0.out.cell (p := ⟨gb, goff + k, none⟩) hgb).trans hgc
          have s1 := (HW0.out.cell (p := ⟨bb, off, none⟩) (Nat.lt_of_lt_of_le hbb HB.out.size)).trans c0
          have HRC := hide ((HS.out.below HB.out).below HW0.out)
          have HRD := hide (hri.below HW0.out)
          have HBW := hide (HB.out.trans (HW0.out.mono HB.out.size))
          have hdl := hdx.1
          have HDX := hide hdx.2
          have hgw : gb < W0.heap.size := Nat.lt_of_lt_of_le hgb HW0.out.size
          have hbw : bb < W0.heap.size := Nat.lt_of_lt_of_le hbb (Nat.le_trans HB.out.size HW0.out.size)
          have CW : Hid (∀ x, Below W0.heap.size W0 x → Calls Tryz.prog 32 #[.slice ai d.length ci, .int .i64 (-l0)] x fun e w' => ∃ g5 cap5, e = .returned (.slice (some ⟨g5, 0, none⟩) (wo d (-l0)).length cap5) ∧ Hid (Own x.heap.size w' (.slice (some ⟨g5, 0, none⟩) (wo d (-l0)).length cap5) (wo d (-l0))) ∧ Hid (Below x.heap.size x w') ∧ Hid (Below W0.heap.size W0 w') ∧ w'.cell? ⟨gb, goff + k, none⟩ = some (.slice ai d.length ci) ∧ w'.cell? ⟨bb, off, none⟩ = some (.int .i64 l0)) := fun x hx => by
            refine (refWithout_any ai ci d (-l0) x (HRD.out.below hx) (by omega)).mono ?_
            rintro e w' ⟨v, rfl, ho, hnn, hb⟩
            obtain ⟨a5, cap5, rfl, h1, h2, h3⟩ := own_form ho
            have hb0 : Below W0.heap.size W0 w' := hx.trans (hb.mono hx.size)
            rcases h3 with ⟨rfl, h4, rfl⟩ | ⟨g5, rfl, _⟩
            · exact absurd (by rw [h4]) hnn
            · exact ⟨g5, cap5, rfl, ho, hb, hb0, (hb0.cell (p := ⟨gb, goff + k, none⟩) hgw).trans s0, (hb0.cell (p := ⟨bb, off, none⟩) hbw).trans s1⟩
          have HBA := hide (((Below.refl W0.heap.size W0).alloc (Nat.le_refl _) (.cells #[] 3)).drew)
          have HBD := hide ((Below.refl W0.heap.size W0).drew)
          have hE1 : (W0.alloc (.cells #[] 3)).drew.ownsRow W0.heap.size 3 1 (.slice (some ⟨W0.heap.size, 0, none⟩) 0 0) 0 [] := own_same (own_lit0 W0 W0.heap.size (Nat.le_refl _)) (fun _ _ => rfl)
          have hRl : (wo d (-l0)).length ≤ d.length := by unfold wo; exact List.length_filter_le _ _
          have HHH := hide hh
          have HSZ := hide HW0.out.size
          clear hh hgc c0 hri CH HW0 hdx hli
          generalize hR : wo d (-l0) = R at *
          have HR := hide hR
          clear hR
          have hgne : gb ≠ W0.heap.size := Nat.ne_of_lt hgw
          have hbne : bb ≠ W0.heap.size := Nat.ne_of_lt hbw
          have hwr : IntKind.i64.wrap (-l0) = -l0 := wrap_neg (by omega) (by omega)
          go_cut [6] from 26 to 38 (fun v wx => JoinP W0 c R v wx)
          case first =>
            clear HG HS HX HC HRF HA HT HDR HBW
            go_region_held3 (fun q => q.cell? ⟨gb, goff + k, none⟩ = some (.slice ai d.length ci) ∧ q.cell? ⟨bb, off, none⟩ = some (.int .i64 l0)) (first | exact ⟨by assumption, by assumption⟩ | go_keep) (first
              | (go_at_call 32; refine (CW.out _ (by first | exact HB1.out | exact HBA.out | exact HBD.out)).mono ?_; rintro e w3 ⟨g5, cap5, rfl, HO5, HB5, HB3, r0, r1⟩; have hE3 := own_lit0 w3 W0.heap.size HB3.out.size; have HB3a := hide (HB3.out.alloc HB3.out.size (.cells #[] 3)); have q0 := (HB3a.out.cell (p := ⟨gb, goff + k, none⟩) hgw).trans s0; have q1 := (HB3a.out.cell (p := ⟨bb, off, none⟩) hbw).trans s1; try (have hE2 := own_e2 hE1 HB5.out))
              | (refine step_append_any rfl (.tmp 26) (.tmp 27) 25 rfl W0.heap.size 3 i0 (.int .i64 0) 1 8 Tryz.underlying25 hi hz0 hz1 hz2 rfl (by decide) (.slice (some ⟨W0.heap.size, 0, none⟩) 0 0) 0 [] (by rfl) hE1 (by simp) (some ⟨bb, off, none⟩) c.length cb (intC c) (by rfl) (row_src (HRC.out.below HBA.out) (by simp)) (intC_one c) (by unfold maxLen; omega) (by omega) (Below.size HBA.out) ?_; intro g1 cap1 w1 ho1 hgr1 hat1 hlt1; simp only [Nat.zero_add, List.nil_append] at ho1; have HB1 := hide (Below.grown HBA.out hgr1 (Below.size HBA.out) (fun b e => by simp [Value.ownBlock] at e; omega)); have t0 := (HB1.out.cell (p := ⟨gb, goff + k, none⟩) hgw).trans s0; have t1 := (HB1.out.cell (p := ⟨bb, off, none⟩) hbw).trans s1)
              | (refine step_append_any rfl (.tmp 26) (.tmp 27) 25 rfl W0.heap.size 3 i0 (.int .i64 0) 1 8 Tryz.underlying25 hi hz0 hz1 hz2 rfl (by decide) (.slice (some ⟨W0.heap.size, 0, none⟩) 0 0) 0 [] (by rfl) hE2 (by simp) (some ⟨bb, off, none⟩) c.length cb (intC c) (by rfl) (row_src (HRC.out.below HB3.out) (by simp)) (intC_one c) (by unfold maxLen; omega) (by omega) (Below.size HB3.out) ?_; intro g1 cap1 w1 ho1 hgr1 hat1 hlt1; simp only [Nat.zero_add, List.nil_append] at ho1; have HB1 := hide (Below.grown HB3.out hgr1 (Below.size HB3.out) (fun b e => by simp [Value.ownBlock] at e; omega)); have t0 := (HB1.out.cell (p := ⟨gb, goff + k, none⟩) hgw).trans s0; have t1 := (HB1.out.cell (p := ⟨bb, off, none⟩) hbw).trans s1)
              | (refine step_append_any rfl (.tmp 26) (.tmp 27) 25 rfl W0.heap.size 3 i0 (.int .i64 0) 1 8 Tryz.underlying25 hi hz0 hz1 hz2 rfl (by decide) (.slice (some ⟨w3.heap.size, 0, none⟩) 0 0) 0 [] (by rfl) hE3 (by simp) (some ⟨bb, off, none⟩) c.length cb (intC c) (by rfl) (row_src (HRC.out.below HB3a.out) (by simp)) (intC_one c) (by unfold maxLen; omega) (by omega) (Below.size HB3a.out) ?_; intro g1 cap1 w1 ho1 hgr1 hat1 hlt1; simp only [Nat.zero_add, List.nil_append] at ho1; have HB1 := hide (Below.grown HB3a.out hgr1 (Below.size HB3a.out) (fun b e => by simp [Value.ownBlock] at e; have := HB3.out.size; omega)); have t0 := (HB1.out.cell (p := ⟨gb, goff + k, none⟩) hgw).trans s0; have t1 := (HB1.out.cell (p := ⟨bb, off, none⟩) hbw).trans s1)
              | (refine step_append_any rfl (.tmp 28) (.tmp 37) 25 rfl W0.heap.size 3 i0 (.int .i64 0) 1 8 Tryz.underlying25 hi hz0 hz1 hz2 rfl (by decide) (.slice (some ⟨g1, 0, none⟩) c.length cap1) c.length (intC c) (by rfl) (own_after ho1 HB5.out) (by simp) (some ⟨g5, 0, none⟩) R.length cap5 (R.map (Value.int .i64)) (by rfl) (own_src HO5.out) (intC_one R) (by unfold maxLen; omega) (by omega) (Below.size HB3.out) ?_; intro g9 cap9 w9 ho9 hgr9 hat9 hlt9; have HJ := hide (join_fin (w0 := W0) HB3.out (own_after ho1 HB5.out) hgr9 ho9); have hb9 := join_bel HJ.out; have u0 := (hb9.cell (p := ⟨gb, goff + k, none⟩) hgw).trans s0; have u1 := (hb9.cell (p := ⟨bb, off, none⟩) hbw).trans s1; clear hb9)
              | (refine step_append_any rfl (.tmp 28) (.tmp 37) 25 rfl W0.heap.size 3 i0 (.int .i64 0) 1 8 Tryz.underlying25 hi hz0 hz1 hz2 rfl (by decide) (.slice (some ⟨g1, 0, none⟩) c.length cap1) c.length (intC c) (by rfl) ho1 (by simp) (some ⟨g5, 0, none⟩) R.length cap5 (R.map (Value.int .i64)) (by rfl) (own_src (src2 HO5.out hgr1)) (intC_one R) (by unfold maxLen; omega) (by omega) (Below.size HB1.out) ?_; intro g9 cap9 w9 ho9 hgr9 hat9 hlt9; have HJ := hide (join_fin (w0 := W0) HB1.out ho1 hgr9 ho9); have hb9 := join_bel HJ.out; have u0 := (hb9.cell (p := ⟨gb, goff + k, none⟩) hgw).trans s0; have u1 := (hb9.cell (p := ⟨bb, off, none⟩) hbw).trans s1; clear hb9)
              | (refine step_append_any rfl (.tmp 28) (.tmp 37) 25 rfl W0.heap.size 3 i0 (.int .i64 0) 1 8 Tryz.underlying25 hi hz0 hz1 hz2 rfl (by decide) (.slice (some ⟨g1, 0, none⟩) c.length cap1) c.length (intC c) (by rfl) ho1 (by simp) (some ⟨g5, 0, none⟩) R.length cap5 (R.map (Value.int .i64)) (by rfl) (own_src (src3 HO5.out hgr1)) (intC_one R) (by unfold maxLen; omega) (by omega) (Below.size HB1.out) ?_; intro g9 cap9 w9 ho9 hgr9 hat9 hlt9; have HJ := hide (join_fin (w0 := W0) HB1.out ho1 hgr9 ho9); have hb9 := join_bel HJ.out; have u0 := (hb9.cell (p := ⟨gb, goff + k, none⟩) hgw).trans s0; have u1 := (hb9.cell (p := ⟨bb, off, none⟩) hbw).trans s1; clear hb9))
            all_goals
              go_wp2_with fail
              go_meet
              case rel => exact HJ.out
          case rest =>
          obtain ⟨g9, cap9, rfl, hrow9, hb9⟩ := hcut
          rename World => wx
          have HBX : Hid (Below w.heap.size w wx) := HBW.out.trans (hb9.mono HBW.out.size)
          have HF1 : Hid (refF1 css c (-l0) d = (decide (c.length + R.length ≤ 4096) && refU css (c ++ R))) := by unfold Hid refF1; rw [HHH.out, HR.out]; rfl
          have hRx : ∀ x ∈ R, -1048576 ≤ x ∧ x ≤ 1048576 := by
            intro x hx
            rw [← HR.out] at hx
            have := HDX.out x (List.mem_filter.1 hx).1
            unfold Lt at this; omega
          by_cases hbig : 4096 < c.length + R.length
          · have hbi : (4096 : Int) < (c.length : Int) + (R.length : Int) := by omega
            have HFF : Hid (refF css c = false) := by
              unfold Hid
              rw [HRF.out]
              refine HDR.out ?_
              rw [HF1.out, decide_eq_false (by omega)]; rfl
            clear HT HDR CW hrow9 hb9 s0 s1 hE1 HG HS HX HC
            go_wp2
            go_ret
            exact ⟨ret_bool HFF.out.symm, HBX.out⟩
          · have hbi : ¬ (4096 : Int) < (c.length : Int) + (R.length : Int) := by omega
            have CU := refUnit7_any (some ⟨gb, goff, none⟩) (some ⟨g9, 0, none⟩) ca cap9 css (c ++ R) V wx (HG.out.below HBX.out) hrow9 hcl hV (fun x hx => ⟨by have := (HX.out x hx).1; omega, (HX.out x hx).2⟩) (by rw [List.length_append]; omega) (fun x hx => by
              rcases List.mem_append.1 hx with h | h
              · exact HC.out x h
              · exact hRx x h)
            rw [List.length_append] at CU
            have HF2 : Hid (refF1 css c (-l0) d = refU css (c ++ R)) := by unfold Hid; rw [HF1.out, decide_eq_true (by omega)]; rfl
            clear CW hrow9 hb9 s0 s1 hE1 hRx HS HX HC HF1
            cases hU : refU css (c ++ R) with
            | false =>
              rw [hU] at CU HF2
              replace CU := hide CU
              have HFF : Hid (refF css c = false) := by unfold Hid; rw [HRF.out]; exact HDR.out HF2.out
              clear HT HDR hU
              go_wp2_with (go_at_call 13; refine (unhide CU).mono ?_; rintro e w7 ⟨rfl, hb7⟩)
              go_ret
              exact ⟨ret_bool HFF.out.symm, HBX.out.trans (hb7.mono HBX.out.size)⟩
            | true =>
              rw [hU] at CU HF2
              replace CU := hide CU
              have HTT : Hid ((css.take (k + 1)).all (refF1 css c (-l0)) = true) := by unfold Hid; rw [HT.out, HF2.out]
              clear HT HDR hU
              go_wp2_with (go_at_call 13; refine (unhide CU).mono ?_; rintro e w7 ⟨rfl, hb7⟩)
              have HB7 := hide (HBX.out.trans (hb7.mono HBX.out.size))
              clear hb7
              go_wp2
              go_roundw
              case rel => exact ⟨k + 1, by omega, by go_num, HTT, HB7⟩
              case measure => simp [intOf]; omega
      · obtain rfl : k = css.length := by omega
        have HFF : Hid (refF css c = true) := by
          unfold Hid
          rw [HRF.out]
          have := HA.out
          rw [List.take_length] at this
          exact this
        clear HA
        go_wp2
        go_ret
        exact ⟨ret_bool HFF.out.symm, HB.out⟩
end Go.Proofs.YtlmbgaconjcaiaaGreat

namespace Go.Proofs.YtlmbgaconjcaiaaGreat

theorem taut_con (c : List Int) : tautB c = true ↔ ¬ Con c := by
  unfold tautB Con hasB
  rw [List.any_eq_true]
  constructor
  · rintro ⟨x, hx, h⟩ hn
    rw [List.any_eq_true] at h
    obtain ⟨y, hy, e⟩ := h
    obtain rfl : y = -x := by simpa using e
    exact hn x hx hy
  · intro h
    by_cases h2 : ∃ x ∈ c, (c.any fun y => y == -x) = true
    · exact h2
    · exfalso
      apply h
      intro x hx hy
      exact h2 ⟨x, hx, by rw [List.any_eq_true]; exact ⟨-x, hy, by simp⟩⟩

theorem alv_keys {t : PS} {css : List (List Int)} (h : t.cls.map key = css.map (fun c => (c, false))) : Alv t css := by
  intro L
  constructor
  · intro hL
    obtain ⟨i, hi⟩ := List.mem_iff_getElem?.1 hL
    obtain ⟨c, c1, c2, c3⟩ := keys_get h (i := i) (k := (L, false)) (by rw [List.getElem?_map, hi]; rfl)
    exact ⟨i, c, c1, c3, c2⟩
  · rintro ⟨i, c, h1, h2, rfl⟩
    have q := keys_at h h1
    rw [List.getElem?_map] at q
    cases e : css[i]? with
    | none => rw [e] at q; cases q
    | some d =>
      rw [e] at q
      simp at q
      rw [← q.1]
      exact List.mem_of_getElem? e

theorem te_ref {sp : Nat} {css : List (List Int)} {cl : List Int} {b : Bool} (h : TE sp css cl b) (hl : css.length ≤ 100000) (hs : ∀ d ∈ css, ∀ x ∈ d, x ≠ 0 ∧ (sp ≠ 0 → -x ≠ (sp : Int))) (hc : ∀ x ∈ cl, x ≠ 0 ∧ (sp ≠ 0 → x ≠ (sp : Int))) : refU css cl = b := by
  obtain ⟨t, ds, hI, hk, h1, h0, hd, hT⟩ := h
  unfold refU
  cases ht : tautB cl with
  | true => rw [told_taut hI hT ((taut_con cl).1 ht)]; rfl
  | false =>
    have hcon : Con cl := by
      by_cases h : Con cl
      · exact h
      · rw [(taut_con cl).2 h] at ht; cases ht
    show (followsP css 100001 (cl.map fun x => -x)).2 = b
    by_cases hz : sp = 0
    · refine told_ref hI (alv_keys hk) (sp := 0) hT hcon (fun d hd' x hx e => (hs d hd' x hx).1 (by omega)) (fun x hx => (hc x hx).1) (fun x hx => ?_) (by omega)
      rw [h0 hz] at hx
      exact .inl (hd x hx)
    · refine told_ref hI (alv_keys hk) (sp := (sp : Int)) hT hcon (fun d hd' x hx => (hs d hd' x hx).2 hz) (fun x hx => (hc x hx).2 hz) (fun x hx => ?_) (by omega)
      rw [h1 hz] at hx
      rcases List.mem_cons.1 hx with h | h
      · exact .inr h
      · exact .inl (hd x h)

theorem spare_ne {V : Nat} {c : List Int} {x : Int} (hx : (-(V : Int) ≤ x ∧ x ≤ V) ∨ x ∈ c) (h : spareN V [⟨false, c⟩] ≠ 0) : x ≠ (spareN V [⟨false, c⟩] : Int) ∧ -x ≠ (spareN V [⟨false, c⟩] : Int) := by
  have h1 := (le_topN V [⟨false, c⟩]).1
  have h2 := (le_topN V [⟨false, c⟩]).2 _ (List.mem_singleton_self _)
  simp only at h2
  have e : spareN V [⟨false, c⟩] = topN V [⟨false, c⟩] + 1 := by
    unfold spareN at h ⊢
    split
    · rfl
    · rename_i hh; rw [if_neg hh] at h; exact absurd rfl h
  rw [e]
  rcases hx with hx | hx
  · omega
  · have := le_gtN x hx
    omega

/-- Unit tells what the document tells. -/
theorem unit_ref {V : Nat} {css : List (List Int)} {c : List Int} {b : Bool} (h : UnitE V css c b) (hl : css.length ≤ 100000) (hc : cnfB V css = true) (hm : mayB c 1048576 = true) : refU css c = b := by
  have hlt := cnf_lt hc
  refine te_ref (sp := spareN V [⟨false, c⟩]) h hl (fun d hd x hx => ⟨((hlt d hd).2 x hx).1, fun hz => (spare_ne (.inl (by have := (hlt d hd).2 x hx; unfold Lt at this; omega)) hz).2⟩) (fun x hx => ⟨(may_lits hm x hx).1, fun hz => (spare_ne (.inr hx) hz).1⟩)

/-- First tells what the document tells. -/
theorem first_ref {V : Nat} {css : List (List Int)} {c : List Int} {b : Bool} (h : (c = [] ∧ b = false) ∨ ∃ l0, c[0]? = some l0 ∧ FirstE (spareN V [⟨false, c⟩]) css c (-l0) b) (hl : css.length ≤ 100000) (hc : cnfB V css = true) (hm : mayB c 1048576 = true) : refF css c = b := by
  rcases h with ⟨rfl, rfl⟩ | ⟨l0, h0, hF⟩
  · rfl
  · have hlt := cnf_lt hc
    have hte : ∀ d ∈ css, ∀ b', TE (spareN V [⟨false, c⟩]) css (c ++ wo d (-l0)) b' → refU css (c ++ wo d (-l0)) = b' := by
      intro d hd b' hT
      refine te_ref hT hl (fun d hd x hx => ⟨((hlt d hd).2 x hx).1, fun hz => (spare_ne (.inl (by have := (hlt d hd).2 x hx; unfold Lt at this; omega)) hz).2⟩) (fun x hx => ?_)
      rcases List.mem_append.1 hx with hx | hx
      · exact ⟨(may_lits hm x hx).1, fun hz => (spare_ne (.inr hx) hz).1⟩
      · have hx' := (List.mem_filter.1 hx).1
        exact ⟨((hlt d hd).2 x hx').1, fun hz => (spare_ne (.inl (by have := (hlt d hd).2 x hx'; unfold Lt at this; omega)) hz).1⟩
    have hrf : refF css c = css.all (refF1 css c (-l0)) := by
      cases c with
      | nil => simp at h0
      | cons l r => simp at h0; subst h0; rfl
    have hhas : ∀ d : List Int, hasB d (-l0) = true ↔ -l0 ∈ d := by
      intro d
      unfold hasB
      rw [List.any_eq_true]
      constructor
      · rintro ⟨y, hy, e⟩; obtain rfl : y = -l0 := by simpa using e
        exact hy
      · intro hy; exact ⟨_, hy, by simp⟩
    rw [hrf]
    rcases hF with ⟨rfl, hF⟩ | ⟨rfl, d, hd, hld, hF⟩
    · rw [List.all_eq_true]
      intro d hd
      unfold refF1
      cases hh : hasB d (-l0) with
      | false => rfl
      | true =>
        obtain ⟨a1, a2⟩ := hF d hd ((hhas d).1 hh)
        rw [hte d hd true a2, decide_eq_true a1]; rfl
    · rw [List.all_eq_false]
      refine ⟨d, hd, ?_⟩
      unfold refF1
      rw [(hhas d).2 hld]
      rcases hF with hF | hF
      · rw [decide_eq_false (by omega)]; simp
      · rw [hte d hd false hF]; simp
end Go.Proofs.YtlmbgaconjcaiaaGreat

namespace Go.Proofs.YtlmbgaconjcaiaaGreat

/-- Clauses without the first that has the same literals. -/
def remO : List (List Int) → List Int → List (List Int)
  | [], _ => []
  | d :: r, c => if order d = order c then r else d :: remO r c
/-- What the document's step leaves. -/
def docX (V : Nat) (css : List (List Int)) (d : Bool) (c : List Int) : Nat := if d then V else if refU css c || refF css c then max V (gtN c) else V
def docC (css : List (List Int)) (d : Bool) (c : List Int) : List (List Int) := if d then remO css c else if refU css c || refF css c then css ++ [c] else css
def docE (css : List (List Int)) (d : Bool) (c : List Int) : Int := if d then 0 else if refU css c || refF css c then 0 else 7

theorem tx_flat (c : List Int) : tx c = (order c).flatMap b3 := by simp [tx, txt]
theorem lit_b3 {c : List Int} (h : mayB c 1048576 = true) : ∀ x ∈ order c, -8388608 ≤ x ∧ x < 8388608 := by
  intro x hx
  have := order_lits (lits_of h) x hx
  omega
theorem tx_iff {c d : List Int} (hc : mayB c 1048576 = true) (hd : mayB d 1048576 = true) : tx c = tx d ↔ order c = order d := by
  rw [tx_flat, tx_flat]
  exact ⟨fun h => flat_inj _ _ (lit_b3 hc) (lit_b3 hd) h, fun h => by rw [h]⟩
theorem rem_doc {c : List Int} (hc : mayB c 1048576 = true) : ∀ (css : List (List Int)), (∀ d ∈ css, mayB d 1048576 = true) → remB css (tx c) = remO css c
  | [], _ => rfl
  | d :: r, h => by
    unfold remB remO
    have := tx_iff (h d (by simp)) hc
    by_cases e : order d = order c
    · rw [if_pos e, if_pos (this.2 e)]
    · rw [if_neg e, if_neg (fun q => e (this.1 q)), rem_doc hc r (fun x hx => h x (List.mem_cons_of_mem _ hx))]

theorem cnf_may {V : Nat} {css : List (List Int)} (hc : cnfB V css = true) : ∀ d ∈ css, mayB d 1048576 = true := by
  intro d hd
  have q := cnf_lt hc d hd
  have hV : V ≤ 1048576 := by
    unfold cnfB at hc
    simp only [Bool.and_eq_true, decide_eq_true_eq] at hc
    omega
  exact may_lt q.2 hV q.1

theorem unit_te {V : Nat} {css : List (List Int)} {c : List Int} {b : Bool} (h : TE (spareN V [⟨false, c⟩]) css c b) (hl : css.length ≤ 100000) (hc : cnfB V css = true) (hm : mayB c 1048576 = true) : refU css c = b := unit_ref h hl hc hm

theorem doe_ref {V : Nat} {css : List (List Int)} {d : Bool} {c : List Int} {r : Int} {x1 : Nat} {css' : List (List Int)} (h : DoE V css d c r x1 css') (hl : css.length ≤ 100000) (hc : cnfB V css = true) (hm : mayB c 1048576 = true) :
    r = docE css d c ∧ x1 = docX V css d c ∧ css' = docC css d c := by
  rcases h with ⟨rfl, rfl, e3, e4⟩ | ⟨rfl, rfl, e3, e4, h⟩ | ⟨rfl, rfl, e3, e4, h1, h2⟩
  · exact ⟨rfl, e3, e4.trans (rem_doc hm css (cnf_may hc))⟩
  · have : (refU css c || refF css c) = true := by
      rcases h with h | ⟨l0, h0, h⟩
      · rw [unit_te h hl hc hm]; rfl
      · rw [first_ref (b := true) (.inr ⟨l0, h0, h⟩) hl hc hm]; simp
    simp [docE, docX, docC, this, e3, e4]
  · have e1 : refU css c = false := unit_te h1 hl hc hm
    have e2 : refF css c = false := by
      rcases h2 with rfl | ⟨l0, h0, h⟩
      · exact first_ref (b := false) (.inl ⟨rfl, rfl⟩) hl hc hm
      · exact first_ref (b := false) (.inr ⟨l0, h0, h⟩) hl hc hm
    simp [docE, docX, docC, e1, e2, e3, e4]
end Go.Proofs.YtlmbgaconjcaiaaGreat

namespace Go.Proofs.YtlmbgaconjcaiaaGreat
open Go.RowKit

set_option maxHeartbeats 400000 in
theorem ahead_any (a b : Int) (w : World) (ha : -1048576 ≤ a ∧ a ≤ 1048576) (hb : -1048576 ≤ b ∧ b ≤ 1048576) :
    Calls Tryz.prog 55 #[.int .i64 a, .int .i64 b] w fun e w' => e = .returned (.bool (aheadB a b)) ∧ w' = w := by
  have c1 := hide (fun w => var_any a w ha.1 ha.2)
  have c2 := hide (fun w => var_any b w hb.1 hb.2)
  clear ha hb
  unfold aheadB
  generalize varI a = x at *
  generalize varI b = y at *
  go_enter Tryz.func55, Tryz.ntmps55
  go_wp2_with (first | (go_at_call_of 24 (Value.int IntKind.i64 a); refine (unhide c1 _).mono ?_; rintro e w' ⟨rfl, rfl⟩) | (go_at_call_of 24 (Value.int IntKind.i64 b); refine (unhide c2 _).mono ?_; rintro e w' ⟨rfl, rfl⟩))
  all_goals
    go_ret
    refine ⟨ret_bool ?_, rfl⟩
  all_goals simp_all <;> try omega


theorem bel_drewN {N : Nat} {w w' : World} (h : Below N w w') (n : Nat) : Below N w (w'.drewN n) := ⟨h.os, h.tape, h.output, h.size, h.block⟩

theorem cells_take {w : World} {g : Nat} {os : List Int} (h : ∀ j u, (os.map (Value.int .i64))[j]? = some u → w.cell? ((⟨g, 0, none⟩ : Addr).add j) = some u) (q : Nat) :
    ∀ j u, ((os.take q).map (Value.int .i64))[j]? = some u → w.cell? ((⟨g, 0, none⟩ : Addr).add j) = some u := by
  intro j u hu
  refine h j u ?_
  rw [List.map_take, List.getElem?_take] at hu
  split at hu
  · exact hu
  · cases hu

theorem cells_drop {w : World} {g : Nat} {os : List Int} (h : ∀ j u, (os.map (Value.int .i64))[j]? = some u → w.cell? ((⟨g, 0, none⟩ : Addr).add j) = some u) (q : Nat) :
    ∀ j u, ((os.drop q).map (Value.int .i64))[j]? = some u → w.cell? ((⟨g, q, none⟩ : Addr).add j) = some u := by
  intro j u hu
  have := h (q + j) u (by rw [List.map_drop, List.getElem?_drop] at hu; exact hu)
  rw [Go.WideShapes.add_plain] at this ⊢
  rw [Nat.zero_add] at this
  exact this

theorem cells_below {w w' : World} {g o : Nat} {vs : List Value} (h : ∀ j u, vs[j]? = some u → w.cell? ((⟨g, o, none⟩ : Addr).add j) = some u) (hg : g < w.heap.size) (hb : Below w.heap.size w w') :
    ∀ j u, vs[j]? = some u → w'.cell? ((⟨g, o, none⟩ : Addr).add j) = some u := by
  intro j u hu
  have := h j u hu
  rw [Go.WideShapes.add_plain] at this ⊢
  rw [← this]
  exact hb.cell (p := ⟨g, o + j, none⟩) hg

/-- What is appended begins at one of two places. -/
theorem append_if {P : Program} (w : World) {ops : Array Oper} {rest : List Oper} {o : Oper} {a : Act} {Q : Exit → Act → World → Prop} (hgd : o.guard = none) (s x : Operand) (t : TypeId)
    (ho : o.op = .call { callee := .builtin .append, args := #[s, x], argTypes := #[t, t] })
    (base : Nat) (e : TypeId) (i : TypeInfo) (z : Value) (size bytes : Nat) (ht : P.underlying t = some (.slice e)) (hi : P.info? e = some i) (hz : i.zero = some z)
    (hsize : i.size = size) (hby : i.bytes = bytes) (hzs : z.cells.size = size) (hsz : 0 < size)
    (v : Value) (n : Nat) (xs : List Value) (hs : a.eval s = v) (hown : w.ownsRow base e size v n xs)
    (cnd : Prop) [Decidable cnd] (a1 a2 : Addr) (m c : Nat) (news : List Value) (hx : a.eval x = .slice (if cnd then some a1 else some a2) m c) (hl : news.length = m * size)
    (hnews1 : cnd → news = []) (hnews2 : ¬ cnd → ∀ j u, news[j]? = some u → w.cell? (a2.add j) = some u) (h1 : ∀ u ∈ news, u.oneCell' = true)
    (h63 : n + m ≤ maxLen) (hbytes : (n + m) * bytes ≤ 140737488355328) (hbase : base ≤ w.heap.size)
    (h : ∀ v' w', w'.ownsRow base e size v' (n + m) (xs ++ news) → w.grownBy w' v.ownBlock → (v' = .slice none 0 0 ↔ v = .slice none 0 0 ∧ m = 0) → wpList P ops Q rest (a.put o.dst v') w') : wpList P ops Q (o :: rest) a w := by
  refine wpList_append_own w hgd s x t ho base e i z size bytes ht hi hz hsize hby hzs hsz v n xs hs hown (if cnd then a1 else a2) m c news ?_ hl ?_ h1 h63 hbytes hbase h
  · rw [hx]; split <;> rfl
  · intro j u hu
    by_cases hc : cnd
    · rw [hnews1 hc] at hu; simp at hu
    · rw [if_neg hc]; exact hnews2 hc j u hu

theorem own_three {base : Nat} {w : World} {v : Value} {os : List Int} {x : Int} {q : Nat} (h : w.ownsRow base 3 1 v (q + 1 + (os.length - q)) ((os.take q).map (Value.int .i64) ++ [.int .i64 x] ++ (os.drop q).map (Value.int .i64))) (hq : q ≤ os.length) :
    Own base w v (os.take q ++ x :: os.drop q) := by
  unfold Own
  have e1 : (os.take q ++ x :: os.drop q).length = q + 1 + (os.length - q) := by simp; omega
  have e2 : (os.take q ++ x :: os.drop q).map (Value.int .i64) = (os.take q).map (Value.int .i64) ++ [.int .i64 x] ++ (os.drop q).map (Value.int .i64) := by simp
  rw [e1, e2]; exact h

set_option maxRecDepth 100000 in
set_option maxHeartbeats 4000000 in
theorem order_any (a : Option Addr) (cap : Nat) (c : List Int) (w : World) (hr : Row w a c) (hl : c.length ≤ 5000) (hli : Lits c) :
    Calls Tryz.prog 36 #[.slice a c.length cap] w fun e w' => ∃ v, e = .returned v ∧ Own w.heap.size w' v (order c) ∧ Below w.heap.size w w' := by
  obtain ⟨i0, hi, hz0, hz1, hz2⟩ := info_parts Tryz.info3
  go_enter Tryz.func36, Tryz.ntmps36
  go_wp2
  go_loopw [3, 4] (fun v i wr => ∃ k : Nat, k ≤ c.length ∧ i = .int .i64 k ∧ Own w.heap.size wr v (order (c.take k)) ∧ v ≠ .slice none 0 0 ∧ Below w.heap.size w wr) (fun _ i _ => c.length - (intOf i).toNat)
  case atStart => exact ⟨0, Nat.zero_le _, rfl, World.ownsRow_lit (e := 3) (size := 1) w #[] 0 (Nat.le_refl _) (Nat.zero_le _) rfl, by simp, (Below.refl _ _).alloc (Nat.le_refl _) _⟩
  case round =>
    obtain ⟨k, hk, rfl, hown, hnn, hbel⟩ := hrel
    by_cases hlt : k < c.length
    · obtain ⟨b, off, rfl, hb, hc⟩ := hr k hlt
      have hc' := (hbel.cell (p := ⟨b, off + k, none⟩) hb).trans hc
      have HST := hide (order_take hlt)
      have hol : (order (c.take k)).length ≤ k := Nat.le_trans (order_len _) (List.length_take_le _ _)
      have hlo : Lits (order (c.take k)) := order_lits fun x hx => hli x (List.mem_of_mem_take hx)
      have hx := hli c[k] (List.getElem_mem hlt)
      have hbw : b < wr.heap.size := Nat.lt_of_lt_of_le hb hbel.size
      clear hr hc hb
      generalize hxx : c[k] = x at *
      generalize hos : order (c.take k) = os at *
      clear hxx hos
      obtain ⟨g, cap1, rfl, hg1, hg2, hcells⟩ := hown.src hnn
      have hrow := own_row hown
      have hcap1 : os.length ≤ cap1 := by obtain ⟨_, _, e, _, _, h⟩ := hown.row; cases e; exact h
      have CH := has_any _ cap1 os x wr hrow (by unfold maxLen; omega)
      by_cases hh : hasB os x = true
      · rw [hh] at CH
        replace CH := hide CH
        have HE : Hid (ins os x = os) := by show _ = _; unfold ins; rw [hh]; rfl
        have HO := hide hown
        have HR := hide hrow
        clear hown hrow hh hcells hlo hx
        go_wp2_with fail
        refine (unhide CH).mono ?_
        rintro e w0 ⟨rfl, hw0⟩
        subst w0
        go_wp2
        go_roundw
        case rel => exact ⟨k + 1, by omega, by go_num, by rw [HST.out, HE.out]; exact HO.out, by simp, hbel⟩
        case measure => simp [intOf]; omega
      · have hh' : hasB os x = false := by simpa using hh
        rw [hh'] at CH
        replace CH := hide CH
        have HE : Hid (ins os x = os.take (cut os x) ++ x :: os.drop (cut os x)) := by show _ = _; unfold ins; rw [hh']; rfl
        have HO := hide hown
        have HR := hide hrow
        have HC := hide hcells
        clear hown hrow hh hh' hcells
        go_wp2_with fail
        refine (unhide CH).mono ?_
        rintro e w0 ⟨rfl, hw0⟩
        subst w0
        go_wp2
        go_loopw [5] (fun j wi => ∃ q n : Nat, q ≤ os.length ∧ j = .int .i64 q ∧ (∀ i (h : i < q) (h' : i < os.length), aheadB os[i] x = true) ∧ wi = wr.drewN n) (fun j _ => os.length - (intOf j).toNat)
        case atStart => exact ⟨0, 0, Nat.zero_le _, rfl, fun i h => by omega, rfl⟩
        case round =>
          obtain ⟨q, n, hq, rfl, hno, rfl⟩ := hrel
          have HN := hide hno
          clear hno
          by_cases hqlt : q < os.length
          · obtain ⟨b2, off2, e2, hb2, hc2⟩ := HR.out q hqlt
            cases e2
            have hy := hlo os[q] (List.getElem_mem hqlt)
            have hqi : (q : Int) < os.length := by omega
            simp only [Nat.zero_add] at hc2
            by_cases hah : aheadB os[q] x = true
            · have CA := fun w => ahead_any os[q] x w hy hx
              rw [hah] at CA
              replace CA := hide CA
              have HF : Hid (∀ i (h : i < q + 1) (h' : i < os.length), aheadB os[i] x = true) := by
                intro i h h'
                rcases Nat.lt_or_ge i q with h2 | h2
                · exact HN.out i h2 h'
                · have e : i = q := by omega
                  subst e; exact hah
              clear hah hy HN HR HC HO CH
              go_wp2
              go_quiet ((go_at_call 55; exact quiet_shift (unhide CA _)))
              go_wp2
              go_roundw
              case rel => exact ⟨q + 1, _, by omega, by go_num, HF.out, rfl⟩
              case measure => simp [intOf]; omega
            · have hah' : aheadB os[q] x = false := by simpa using hah
              have CA := fun w => ahead_any os[q] x w hy hx
              rw [hah'] at CA
              replace CA := hide CA
              have HF : Hid (cut os x = q) := cut_of (by omega) (fun i h => HN.out i h (by omega)) (fun h => hah')
              clear hah hah' hy HN CH
              go_wp2
              go_quiet ((go_at_call 55; exact quiet_shift (unhide CA _)))
              have HCT := hide (cells_take HC.out q)
              have HCD := hide (cells_drop HC.out q)
              have htl : ((os.take q).map (Value.int .i64)).length = q * 1 := by simp; omega
              have hdl : ((os.drop q).map (Value.int .i64)).length = (os.length - q) * 1 := by simp
              have HD0 : Hid (cap1 = q → (os.drop q).map (Value.int .i64) = []) := by intro h; rw [List.drop_of_length_le (by omega)]; rfl
              clear HC HO HR
              go_wp2_with (first
                | (at_builtin; refine wpList_append_own _ rfl (.tmp 37) (.tmp 40) 25 rfl wr.heap.size 3 i0 (.int .i64 0) 1 8 Tryz.underlying25 hi hz0 hz1 hz2 rfl (by decide) (.slice (some ⟨wr.heap.size, 0, none⟩) 0 0) 0 [] rfl (World.ownsRow_lit (e := 3) (size := 1) _ #[] 0 (Nat.le_refl _) (Nat.zero_le _) rfl) ⟨g, 0, none⟩ q cap1 ((os.take q).map (Value.int .i64)) rfl htl (cells_below HCT.out hg2 (bel_drewN (Below.refl _ _) _ |>.alloc (Nat.le_refl _) _)) (ints_oneCell _ _) (by unfold maxLen; omega) (by omega) (by simp) ?_; intro v1 w1 hown1 hgrow1 hnil1; have hb1 := ((bel_drewN (Below.refl wr.heap.size wr) _).alloc (Nat.le_refl _) (.cells #[] 3)).grown hgrow1 (by simp) (by intro k hk; cases hk; exact Nat.le_refl _); have hcx := (hb1.cell (p := ⟨b, off + k, none⟩) hbw).trans hc'; simp only [List.nil_append, Nat.zero_add] at hown1; clear hnil1 hgrow1)
                | (at_builtin; refine wpList_append_own _ rfl (.tmp 42) (.tmp 47) 25 rfl wr.heap.size 3 i0 (.int .i64 0) 1 8 Tryz.underlying25 hi hz0 hz1 hz2 rfl (by decide) v1 _ _ rfl (hown1.alloc _) ⟨w1.heap.size, 0, none⟩ 1 1 [.int .i64 x] rfl rfl (cell_one_new _ _ _) (fun x hx => by simp at hx; subst hx; rfl) (by unfold maxLen; omega) (by omega) (by have := hb1.size; simp; omega) ?_; intro v2 w2 hown2 hgrow2 hnil2; have hnn2 : Hid (v2 ≠ .slice none 0 0) := fun h => absurd (hnil2.1 h).2 (by decide); have hb2 := (hb1.alloc hb1.size (.cells #[.int .i64 x] 3)).grown hgrow2 (by have := hb1.size; simp; omega) (fun k hk => (hown1.lt k hk).1); clear hgrow2 hown1 hcx hb1 hnil2)
                | (at_builtin; refine wpList_append_own _ rfl (.tmp 49) (.tmp 52) 25 rfl wr.heap.size 3 i0 (.int .i64 0) 1 8 Tryz.underlying25 hi hz0 hz1 hz2 rfl (by decide) v2 _ _ rfl hown2 ⟨g, q, none⟩ (os.length - q) (cap1 - q) ((os.drop q).map (Value.int .i64)) rfl hdl (cells_below HCD.out hg2 hb2) (ints_oneCell _ _) (by unfold maxLen; omega) (by omega) hb2.size ?_; intro v3 w3 hown3 hgrow3 hnil3; have hnn3 : v3 ≠ .slice none 0 0 := fun h => hnn2.out (hnil3.1 h).1; have hb3 := hb2.grown hgrow3 hb2.size (fun k hk => (hown2.lt k hk).1); have hown4 := own_three hown3 (by omega); clear hgrow3 hown2 hb2 hnil3 hown3 hnn2))
              go_roundw
              case rel => exact ⟨k + 1, by omega, by go_num, by rw [HST.out, HE.out, HF.out]; exact hown4.mono hbel.size, hnn3, hbel.trans (hb3.mono hbel.size)⟩
              case measure => simp [intOf]; omega
          · have hqe : ¬ (q : Int) < os.length := by omega
            have hd : decide ((q : Int) < os.length) = false := by simpa using hqe
            have HF : Hid (cut os x = q) := cut_of (by omega) (fun i h => HN.out i h (by omega)) (fun h => by omega)
            clear HN
            go_wp2
            go_quiet (fail)
            have HCT := hide (cells_take HC.out q)
            have HCD := hide (cells_drop HC.out q)
            have htl : ((os.take q).map (Value.int .i64)).length = q * 1 := by simp; omega
            have hdl : ((os.drop q).map (Value.int .i64)).length = (os.length - q) * 1 := by simp
            have HD0 : Hid (cap1 = q → (os.drop q).map (Value.int .i64) = []) := by intro h; rw [List.drop_of_length_le (by omega)]; rfl
            clear HC HO HR
            go_wp2_with (first
              | (at_builtin; refine wpList_append_own _ rfl (.tmp 37) (.tmp 40) 25 rfl wr.heap.size 3 i0 (.int .i64 0) 1 8 Tryz.underlying25 hi hz0 hz1 hz2 rfl (by decide) (.slice (some ⟨wr.heap.size, 0, none⟩) 0 0) 0 [] rfl (World.ownsRow_lit (e := 3) (size := 1) _ #[] 0 (Nat.le_refl _) (Nat.zero_le _) rfl) ⟨g, 0, none⟩ q cap1 ((os.take q).map (Value.int .i64)) rfl htl (cells_below HCT.out hg2 (bel_drewN (Below.refl _ _) _ |>.alloc (Nat.le_refl _) _)) (ints_oneCell _ _) (by unfold maxLen; omega) (by omega) (by simp) ?_; intro v1 w1 hown1 hgrow1 hnil1; have hb1 := ((bel_drewN (Below.refl wr.heap.size wr) _).alloc (Nat.le_refl _) (.cells #[] 3)).grown hgrow1 (by simp) (by intro k hk; cases hk; exact Nat.le_refl _); have hcx := (hb1.cell (p := ⟨b, off + k, none⟩) hbw).trans hc'; simp only [List.nil_append, Nat.zero_add] at hown1; clear hnil1 hgrow1)
              | (at_builtin; refine wpList_append_own _ rfl (.tmp 42) (.tmp 47) 25 rfl wr.heap.size 3 i0 (.int .i64 0) 1 8 Tryz.underlying25 hi hz0 hz1 hz2 rfl (by decide) v1 _ _ rfl (hown1.alloc _) ⟨w1.heap.size, 0, none⟩ 1 1 [.int .i64 x] rfl rfl (cell_one_new _ _ _) (fun x hx => by simp at hx; subst hx; rfl) (by unfold maxLen; omega) (by omega) (by have := hb1.size; simp; omega) ?_; intro v2 w2 hown2 hgrow2 hnil2; have hnn2 : Hid (v2 ≠ .slice none 0 0) := fun h => absurd (hnil2.1 h).2 (by decide); have hb2 := (hb1.alloc hb1.size (.cells #[.int .i64 x] 3)).grown hgrow2 (by have := hb1.size; simp; omega) (fun k hk => (hown1.lt k hk).1); clear hgrow2 hown1 hcx hb1 hnil2)
              | (at_builtin; refine append_if _ rfl (.tmp 49) (.tmp 52) 25 rfl wr.heap.size 3 i0 (.int .i64 0) 1 8 Tryz.underlying25 hi hz0 hz1 hz2 rfl (by decide) v2 _ _ rfl hown2 (cap1 = q) ⟨g, 0, none⟩ ⟨g, q, none⟩ (os.length - q) (cap1 - q) ((os.drop q).map (Value.int .i64)) (by rfl) hdl HD0.out (fun _ => cells_below HCD.out hg2 hb2) (ints_oneCell _ _) (by unfold maxLen; omega) (by omega) hb2.size ?_; intro v3 w3 hown3 hgrow3 hnil3; have hnn3 : v3 ≠ .slice none 0 0 := fun h => hnn2.out (hnil3.1 h).1; have hb3 := hb2.grown hgrow3 hb2.size (fun k hk => (hown2.lt k hk).1); have hown4 := own_three hown3 (by omega); clear hgrow3 hown2 hb2 hnil3 hown3 hnn2))
            go_roundw
            case rel => exact ⟨k + 1, by omega, by go_num, by rw [HST.out, HE.out, HF.out]; exact hown4.mono hbel.size, hnn3, hbel.trans (hb3.mono hbel.size)⟩
            case measure => simp [intOf]; omega
    · have hz : c.length ≤ k := by omega
      clear hr
      go_wp2
      go_ret
      exact ⟨_, rfl, by rw [List.take_of_length_le hz] at hown; exact hown, hbel⟩

end Go.Proofs.YtlmbgaconjcaiaaGreat

namespace Go.Proofs.YtlmbgaconjcaiaaGreat
open Go.RowKit

set_option maxHeartbeats 1000000 in
theorem lists_any (a b : Option Addr) (ca cb : Nat) (xs ys : List (List Int)) (w : World) (hr : Grid w a xs) (hs : Grid w b ys) (hl : xs.length ≤ maxLen) (hm : ys.length ≤ maxLen) :
    Calls Tryz.prog 35 #[.slice a xs.length ca, .slice b ys.length cb] w fun e w' => e = .returned (.bool (listsB xs ys)) ∧ ∃ n, w' = w.drewN n := by
  unfold maxLen at hl hm
  by_cases hne : (xs.length : Int) = ys.length
  case neg =>
    have hb : ((xs.length : Int) != ys.length) = true := by rw [bne_iff_ne]; exact hne
    clear hr hs
    go_enter Tryz.func35, Tryz.ntmps35
    go_wp2
    go_ret
    exact ⟨ret_bool (by simp only [listsB]; symm; rw [decide_eq_false_iff_not]; intro h; apply hne; rw [h]), 0, rfl⟩
  have hb : ((xs.length : Int) != ys.length) = false := by simp [hne]
  have hyl : xs.length ≤ ys.length := by omega
  have HE : Hid (xs.length = ys.length) := by show xs.length = ys.length; omega
  clear hne
  go_enter Tryz.func35, Tryz.ntmps35
  go_wp2
  go_loopw [5] (fun i wr => ∃ k n : Nat, k ≤ xs.length ∧ i = .int .i64 k ∧ xs.take k = ys.take k ∧ wr = w.drewN n) (fun i _ => xs.length - (intOf i).toNat)
  case atStart => exact ⟨0, 0, Nat.zero_le _, rfl, rfl, rfl⟩
  case round =>
    obtain ⟨k, n, hk, rfl, hno, rfl⟩ := hrel
    have HN : Hid (xs.take k = ys.take k) := hno
    clear hno
    by_cases hlt : k < xs.length
    · obtain ⟨b1, off1, a1, c1, rfl, hb1, hc1, hr1, hm1⟩ := hr k hlt
      obtain ⟨b2, off2, a2, c2, rfl, hb2, hc2, hr2, hm2⟩ := hs k (by omega)
      have C1 := fun j => ints_any a1 a2 c1 c2 xs[k] ys[k] (w.drewN j) hr1 hr2 hm1 hm2
      clear hr hs hb hr1 hr2
      unfold maxLen at hm1 hm2
      have hk1 : (k : Int) < xs.length := by omega
      have hk2 : (k : Int) < ys.length := by omega
      by_cases he : xs[k] = ys[k]
      · have he' : intsB xs[k] ys[k] = true := by simp [intsB, he]
        rw [he'] at C1
        replace C1 := hide C1
        have HX := hide he
        clear he he'
        go_wp2
        go_quiet ((go_at_call 37; exact quiet_shift2 (unhide C1 _)))
        go_wp2
        go_roundw
        case rel => exact ⟨k + 1, _, by omega, by go_num, takeL_eq_snoc hlt (by omega) HN.out HX.out, rfl⟩
        case measure => simp [intOf]; omega
      · have he' : intsB xs[k] ys[k] = false := by simp [intsB, he]
        rw [he'] at C1
        replace C1 := hide C1
        have HX := hide he
        clear he he'
        go_wp2
        go_quiet ((go_at_call 37; exact quiet_shift2 (unhide C1 _)))
        go_wp2
        go_ret
        exact ⟨ret_bool (by simp only [listsB]; symm; rw [decide_eq_false_iff_not]; intro h; apply HX.out; simp only [h]), _, by first | rfl | exact World.drewN_drewN _ _ _⟩
    · have hz : xs.length ≤ k := by omega
      clear hr hs
      go_wp2
      go_ret
      refine ⟨ret_bool ?_, _, rfl⟩
      have h := HN.out
      rw [List.take_of_length_le hz, List.take_of_length_le (by have := HE.out; omega)] at h
      simp [listsB, h]


set_option maxHeartbeats 1000000 in
theorem refSame_any (a b : Option Addr) (ca cb : Nat) (n1 n2 : Int) (xs ys : List (List Int)) (w : World) (hr : Grid w a xs) (hs : Grid w b ys) (hl : xs.length ≤ maxLen) (hm : ys.length ≤ maxLen) :
    Calls Tryz.prog 17 #[.agg #[.int .i64 n1, .slice a xs.length ca], .agg #[.int .i64 n2, .slice b ys.length cb]] w fun e w' => e = .returned (.bool (sameB n1 xs n2 ys)) ∧ Below w.heap.size w w' := by
  have hbW := below_two w (.cells #[.int .i64 n1, .slice a xs.length ca] 24) (.cells #[.int .i64 n2, .slice b ys.length cb] 24)
  have C1 := hide (lists_any a b ca cb xs ys _ (hr.below hbW) (hs.below hbW) hl hm)
  have HB := hide hbW
  clear hbW hr hs hl hm
  by_cases h : n1 = n2
  · have h' : (n1 == n2) = true := by simp [h]
    have HE : Hid (sameB n1 xs n2 ys = listsB xs ys) := by show _ = _; simp [sameB, h]
    clear h
    go_enter Tryz.func17, Tryz.ntmps17
    go_wp2_with fail
    refine (unhide C1).mono ?_
    rintro e w1 ⟨rfl, k, rfl⟩
    go_wp2
    go_ret
    exact ⟨ret_bool HE.out.symm, ⟨HB.out.os, HB.out.tape, HB.out.output, HB.out.size, HB.out.block⟩⟩
  · have h' : (n1 == n2) = false := by simp [h]
    have HE : Hid (sameB n1 xs n2 ys = false) := by show _ = _; simp [sameB, h]
    clear h
    go_enter Tryz.func17, Tryz.ntmps17
    go_wp2
    go_ret
    exact ⟨ret_bool HE.out.symm, HB.out⟩

end Go.Proofs.YtlmbgaconjcaiaaGreat
