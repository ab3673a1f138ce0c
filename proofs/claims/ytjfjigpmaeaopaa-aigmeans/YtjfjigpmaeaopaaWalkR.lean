/- The document's Not, Is, Kids, In, Same. -/
import Derived.Test.YtjfjigpmaeaopaaWalkI
import Derived.Test.YtjfjigpmaeaopaaPlainB
set_option linter.unusedVariables false
set_option linter.unusedSimpArgs false
namespace Go.Proofs.Ytjfjigpmaeaopaa
open Go.RowKit Go.Maps

/-- The document's negation. -/
def notR (l : Int) : Int := if l < 0 then -1 else notI l
set_option maxHeartbeats 400000 in
theorem refNot_any (w : World) (l : Int) (h : inI64 l) :
    Calls Try.prog 43 #[.int .i64 l] w fun e w' => e = .returned (.int .i64 (notR l)) ∧ w' = w := by
  obtain ⟨h1, h2⟩ := h
  by_cases h0 : l < 0
  · have e : notR l = -1 := by unfold notR; rw [if_pos h0]
    rw [e]; clear e
    go_enter Try.func43, Try.ntmps43
    go_wp2
    all_goals
      go_ret
      exact ⟨rfl, rfl⟩
  · have e : notR l = notI l := by unfold notR; rw [if_neg h0]
    have h0' : 0 ≤ l := by omega
    rw [e]; clear e
    by_cases hp : l % 2 = 0
    · have e : notI l = l + 1 := by unfold notI; rw [if_pos hp]
      rw [e]; clear e
      have hle : l + 1 ≤ 9223372036854775807 := by omega
      go_enter Try.func43, Try.ntmps43
      go_wp2
      all_goals
        go_ret
        exact ⟨ret_int (by first | rfl | (simp only [IntKind.wrap_i64]; omega)), rfl⟩
    · have e : notI l = l - 1 := by unfold notI; rw [if_neg hp]
      rw [e]; clear e
      go_enter Try.func43, Try.ntmps43
      go_wp2
      all_goals
        go_ret
        exact ⟨ret_int (by first | rfl | (simp only [IntKind.wrap_i64]; omega)), rfl⟩

set_option maxHeartbeats 400000 in
theorem refIs_any (w : World) (al : Option Addr) (cap : Nat) (g : List Gt) (l : Int) (hl : g.length ≤ 1000) :
    Calls Try.prog 42 #[.slice al g.length cap, .int .i64 l] w fun e w' => e = .returned (.bool (isB g l)) ∧ w' = w := by
  have hisB : isB g l = (decide (0 ≤ l) && decide (l < 2 * ((g.length : Int) + 1))) := rfl
  rw [hisB]
  clear hisB
  by_cases h0 : 0 ≤ l
  · have h0' : decide (0 ≤ l) = true := by simpa using h0
    go_enter Try.func42, Try.ntmps42
    go_wp2
    all_goals
      go_ret
      exact ⟨ret_bool (by first | rfl | (rw [Bool.eq_iff_iff]; simp; done) | (rw [Bool.eq_iff_iff]; simp; omega)), rfl⟩
  · have h0' : decide (0 ≤ l) = false := by simpa using h0
    go_enter Try.func42, Try.ntmps42
    go_wp2
    all_goals
      go_ret
      exact ⟨ret_bool (by first | rfl | (rw [Bool.eq_iff_iff]; simp; done) | (rw [Bool.eq_iff_iff]; simp; omega)), rfl⟩

set_option maxHeartbeats 2000000 in
theorem kids_any (w : World) (al : Option Addr) (cap : Nat) (g : List Gt) (l : Int) (neg : Bool) (hs : GS w al g) (hl : g.length ≤ 1000) (hm : May g) (hi : isB g l = true) :
    Calls Try.prog 44 #[.slice al g.length cap, .int .i64 l, .bool neg] w fun e w' => e = .returned (.tuple #[.int .i64 (kidsF g l neg).1, .int .i64 (kidsF g l neg).2.1, .bool (kidsF g l neg).2.2]) ∧ ∃ n, w' = w.drewN n := by
  have hL := isB_iff.1 hi
  by_cases h2 : l < 2
  · have e : kidsF g l neg = (0, 0, false) := by unfold kidsF; rw [if_pos (.inl h2)]
    rw [e]; clear e hs
    go_enter Try.func44, Try.ntmps44
    go_wp2
    all_goals
      exact bodyPost_ret (v := .tuple #[.int .i64 0, .int .i64 0, .bool false]) (by simp [results, Try.results44, go_sem]) rfl ⟨rfl, 0, rfl⟩
  · have h2' : 2 ≤ l := by omega
    obtain ⟨i, hil, e1, e2, ek, ok⟩ := kid_ok hm h2' hi
    obtain ⟨q, off, rfl, hq, c0, c1⟩ := hs i hil
    have e2' : l / 2 - 1 = (i : Int) := e2.symm
    have hx : kidsF g l neg = if l < 2 ∨ decide (l % 2 = 1) ≠ neg ∨ g[i].1 < 0 then (0, 0, false) else (g[i].1, g[i].2, true) := by unfold kidsF; rw [ek]
    rw [hx]
    generalize g[i].1 = c at *
    generalize g[i].2 = d at *
    clear hx ek ok hs hm hi e1 e2
    by_cases hp : l % 2 = 1
    all_goals
      cases neg
      all_goals
        by_cases hc : c < 0
        all_goals
          simp only [hp, hc, h2, decide_true, decide_false, ne_eq, not_true, not_false_eq_true, reduceCtorEq, or_self, or_true, true_or, or_false, false_or, if_true, if_false]
          go_enter Try.func44, Try.ntmps44
          go_wp2
          first
            | exact bodyPost_ret (v := .tuple #[.int .i64 0, .int .i64 0, .bool false]) (by simp [results, Try.results44, go_sem]) rfl ⟨rfl, 0, rfl⟩
            | (go_quiet (fail)
               go_wp2
               exact bodyPost_ret (v := .tuple #[.int .i64 c, .int .i64 d, .bool true]) (by simp [results, Try.results44, go_sem]) rfl ⟨rfl, _, rfl⟩)

/-- What a making of the document tells: a list, and a literal. -/
def RefP (w : World) (q : Nat) (R : List Gt × Int) (e : Ending) (w' : World) : Prop :=
  ∃ q' off' cap', e = .returned (.tuple #[.slice (some ⟨q', off', none⟩) R.1.length cap', .int .i64 R.2]) ∧ GS w' (some ⟨q', off', none⟩) R.1 ∧ Below w.heap.size w w' ∧ (q' = q ∨ (w.heap.size ≤ q' ∧ q' < w'.heap.size))
/-- A list that is not empty lies in memory. -/
theorem gs_lt {W : World} {q off : Nat} {g : List Gt} (h : GS W (some ⟨q, off, none⟩) g) (hg : 0 < g.length) : q < W.heap.size := by
  obtain ⟨q', off', e, hq, _⟩ := h 0 hg
  cases e; exact hq

theorem pair_src (W : World) (a b : Int) : ∀ j u, ([Value.int .i64 a, Value.int .i64 b] : List Value)[j]? = some u → (W.alloc (.cells #[.int .i64 a, .int .i64 b] 53)).cell? ((⟨W.heap.size, 0, none⟩ : Addr).add j) = some u :=
  World.news_of_block (cs := #[.int .i64 a, .int .i64 b]) (t := 53) (fr := (0, 0)) (heap_alloc_new W _)

/-- All that is behind the two appends. -/
theorem two_appends {w w1 w2 : World} {q2 c2 : Nat} {g : List Gt} {t : Gt} {row1 row2 : Option Nat}
    (h1 : (w.alloc (.cells #[] 53)).grownBy w1 row1) (r1 : ∀ b, row1 = some b → w.heap.size ≤ b) (h2 : (w1.alloc (.cells #[.int .i64 t.1, .int .i64 t.2] 53)).grownBy w2 row2) (r2 : ∀ b, row2 = some b → w.heap.size ≤ b)
    (ho : w2.ownsRow w.heap.size 53 2 (.slice (some ⟨q2, 0, none⟩) (g.length + 1) c2) (g.length + 1) (gcl g ++ [.int .i64 t.1, .int .i64 t.2])) :
    GS w2 (some ⟨q2, 0, none⟩) (g ++ [t]) ∧ Below w.heap.size w w2 := by
  have b1 : Below w.heap.size w w1 := (below_alloc w (.cells #[] 53)).grown h1 (by simp) r1
  have b2 : Below w.heap.size w w2 := (b1.alloc b1.size _).grown h2 (by have := b1.size; simp; omega) r2
  rw [← gcl_snoc] at ho
  exact ⟨(gs_own ho).2.1, b2⟩

theorem own_form2 {w : World} {base n : Nat} {v : Value} {xs : List Value} (h : w.ownsRow base 53 2 v n xs) (hv : v ≠ .slice none 0 0) : ∃ q c, v = .slice (some ⟨q, 0, none⟩) n c := by
  rcases h.2 with ⟨h0, _⟩ | ⟨q, c, cur, rfl, _⟩
  · exact absurd h0 hv
  · exact ⟨q, c, rfl⟩

theorem own_new {N S q n c n' c' : Nat} (h : (Value.slice (some ⟨q, 0, none⟩) n c).ownBlock = (Value.slice (some ⟨N, 0, none⟩) n' c').ownBlock ∨ (Value.slice (some ⟨q, 0, none⟩) n c).ownBlock = some S) (hS : N ≤ S := by simp) :
    ∀ b, (Value.slice (some ⟨q, 0, none⟩) n c).ownBlock = some b → N ≤ b := by
  intro b e
  simp only [Value.ownBlock, Option.some.injEq] at e h
  omega

theorem own_new2 {w w1 : World} {q1 c1 q2 c2 n n2 : Nat} {o2 : Obj} (h1 : (Value.slice (some ⟨q1, 0, none⟩) n c1).ownBlock = (Value.slice (some ⟨w.heap.size, 0, none⟩) 0 0).ownBlock ∨ (Value.slice (some ⟨q1, 0, none⟩) n c1).ownBlock = some (w.alloc (.cells #[] 53)).heap.size)
    (h2 : (Value.slice (some ⟨q2, 0, none⟩) n2 c2).ownBlock = (Value.slice (some ⟨q1, 0, none⟩) n c1).ownBlock ∨ (Value.slice (some ⟨q2, 0, none⟩) n2 c2).ownBlock = some (w1.alloc o2).heap.size) (hs : (w.alloc (.cells #[] 53)).heap.size ≤ w1.heap.size) : w.heap.size ≤ q2 := by
  simp [Value.ownBlock] at h1 h2 hs
  omega

set_option maxHeartbeats 2000000 in
set_option maxRecDepth 100000 in
theorem refIn_any (w : World) (q off cap : Nat) (g : List Gt) (hs : GS w (some ⟨q, off, none⟩) g) (hl : g.length ≤ 999) :
    Calls Try.prog 28 #[.slice (some ⟨q, off, none⟩) g.length cap] w (RefP w q (inF g)) := by
  obtain ⟨i0, hi0, hz0, hz1, hz2⟩ := info_parts Try.info53
  have hb0 := below_alloc w (.cells #[] 53)
  have HNEWS := hide ((hs.below hb0).src rfl)
  have HL := hide (gcl_len g)
  have HB0 := hide hb0
  have hge : ¬ (1048576 : Int) ≤ g.length := by omega
  clear hs hb0
  go_enter Try.func28, Try.ntmps28
  go_upto_region 3 with fail
  go_wp2_with (first
    | (at_builtin; refine wpList_append_own_at _ rfl _ _ 24 rfl w.heap.size 53 i0 (.agg #[.int .i64 0, .int .i64 0]) 2 16 Try.underlying24 hi0 hz0 hz1 hz2 rfl (by decide) (.slice (some ⟨q1, 0, none⟩) g.length c1) g.length _ rfl (hown1.alloc _) ⟨w1.heap.size, 0, none⟩ 1 1 [.int .i64 (-1), .int .i64 (-1)] rfl rfl (pair_src w1 (-1) (-1)) (gcl_one _ _) (by unfold maxLen; omega) (by omega) (by have := hgrow1.size; simp at this ⊢; omega) ?_; intro v2 w2 hown2 hgrow2 hnil2 hat2; obtain ⟨q2, c2, rfl⟩ := own_form2 hown2 (fun e => by have := (hnil2.1 e).1; cases this))
    | (at_builtin; refine wpList_append_own_at _ rfl _ _ 24 rfl w.heap.size 53 i0 (.agg #[.int .i64 0, .int .i64 0]) 2 16 Try.underlying24 hi0 hz0 hz1 hz2 rfl (by decide) (.slice (some ⟨w.heap.size, 0, none⟩) 0 0) 0 [] rfl (lit0 w 53 2) ⟨q, off, none⟩ g.length cap (gcl g) rfl HL.out HNEWS.out (gcl_cell g) (by unfold maxLen; omega) (by omega) (by simp) ?_; intro v1 w1 hown1 hgrow1 hnil1 hat1; simp only [List.nil_append, Nat.zero_add] at hown1; obtain ⟨q1, c1, rfl⟩ := own_form2 hown1 (fun e => by have := (hnil1.1 e).1; cases this)))
  obtain ⟨x1, x2⟩ := two_appends (t := (-1, -1)) hgrow1 (by intro b e; cases e; exact Nat.le_refl _) hgrow2 (own_new hat1) hown2
  refine bodyPost_ret (v := .tuple #[.slice (some ⟨q2, 0, none⟩) (g.length + 1) c2, .int .i64 (2 * ((g.length : Int) + 1))]) (by simp [results, Try.results28, go_sem]; try omega) rfl ⟨q2, 0, c2, by simp [inF], x1, x2, .inr ⟨own_new2 hat1 hat2 hgrow1.size, gs_lt x1 (by simp)⟩⟩

/-- Are two lists of nodes alike? -/
def sameB (g h : List Gt) : Bool := decide (g = h)
set_option maxHeartbeats 2000000 in
theorem same_any (w : World) (al bl : Option Addr) (ca cb : Nat) (g : List Gt) (hg : GS w al g) (hh : GS w bl g) (hl : g.length ≤ 1000) :
    Calls Try.prog 9 #[.slice al g.length ca, .slice bl g.length cb] w fun e w' => e = .returned (.bool true) ∧ ∃ n, w' = w.drewN n := by
  go_enter Try.func9, Try.ntmps9
  go_wp2
  go_loopw [5] (fun i W => ∃ k : Nat, k ≤ g.length ∧ i = .int .i64 (k : Int) ∧ ∃ n, W = w.drewN n) (fun i _ => g.length - (intOf i).toNat)
  case atStart => exact ⟨0, Nat.zero_le _, rfl, 0, rfl⟩
  case round =>
    obtain ⟨k, hk, rfl, n, rfl⟩ := hrel
    by_cases hlt : k < g.length
    · obtain ⟨q, off, rfl, hq, c0, c1⟩ := hg k hlt
      obtain ⟨q', off', rfl, hq', d0, d1⟩ := hh k hlt
      generalize g[k].1 = a at *
      generalize g[k].2 = b at *
      clear hg hh
      go_wp2
      go_quiet (fail)
      go_wp2
      go_roundw
      case rel => exact ⟨k + 1, by omega, by go_num, by first | exact ⟨_, rfl⟩ | exact ⟨_, World.drewN_drewN _ _ _⟩⟩
      case measure => simp [intOf]; omega
    · clear hg hh
      go_wp2
      go_ret
      exact ⟨rfl, _, rfl⟩
end Go.Proofs.Ytjfjigpmaeaopaa
