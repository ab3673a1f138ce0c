/- Contract: literals by falling levels, of one level by their variables, by the document. -/
import Derived.Test.YtaepanmkofhgoaaWalkR
import Derived.Test.YtaepanmkofhgoaaWalkE2
import Derived.Maps.AppendAt
import Derived.Test.YtaepanmkofhgoaaWalkV
import Derived.Deep.AppendLies
set_option linter.unusedVariables false
set_option linter.unusedSimpArgs false
namespace Go.Proofs.Ytaepanmkofhgoaa
open Go.RowKit

theorem lits_of_fal {ts : List As} (T : Tr ts) {S : List Int} (h : ∀ l ∈ S, falB ts l = true) : Lits S := fun l hl => (litB_true.1 (fal_lit T.vl (h l hl))).2

theorem filter_take_hit {p : Int → Bool} {S : List Int} {k : Nat} (h : k < S.length) (hp : p S[k] = true) : (S.take (k + 1)).filter p = (S.take k).filter p ++ [S[k]] := by
  rw [List.take_succ_eq_append_getElem h, List.filter_append]; simp [List.filter_cons, hp]
theorem filter_take_miss {p : Int → Bool} {S : List Int} {k : Nat} (h : k < S.length) (hp : p S[k] = false) : (S.take (k + 1)).filter p = (S.take k).filter p := by
  rw [List.take_succ_eq_append_getElem h, List.filter_append]; simp [List.filter_cons, hp]

/-- What is laid out, beside the block that is read. -/
structure OM (w w1 wr : World) (g1 : Nat) (v : Value) (pre : List Int) : Prop where
  own : Own w.heap.size wr v pre
  nn : v ≠ .slice none 0 0
  ne : v.ownBlock ≠ some g1
  blk : wr.heap[g1]? = w1.heap[g1]?
  lt : g1 < wr.heap.size
  bel : Below w.heap.size w wr

theorem OM.row {w w1 wr : World} {g1 : Nat} {v : Value} {pre S : List Int} (h : OM w w1 wr g1 v pre) (hr : Row w1 (some ⟨g1, 0, none⟩) S) : Row wr (some ⟨g1, 0, none⟩) S := by
  intro i hi
  obtain ⟨b, off, e, hb, hc⟩ := hr i hi
  cases e
  exact ⟨g1, 0, rfl, h.lt, by rw [← hc]; exact World.cell?_of_block h.blk⟩

/-- One more is laid out. -/
theorem OM.more {w w1 wr w' : World} {g1 : Nat} {v v' : Value} {pre : List Int} {y : Int} (h : OM w w1 wr g1 v pre) (ho : w'.ownsRow w.heap.size 3 1 v' (pre.length + 1) (pre.map (Value.int .i64) ++ [.int .i64 y])) (hg : (wr.alloc (.cells #[.int .i64 y] 3)).grownBy w' v.ownBlock) (hnil : v' = .slice none 0 0 ↔ v = .slice none 0 0 ∧ 1 = 0) (hloc : v'.ownBlock = v.ownBlock ∨ v'.ownBlock = some (wr.alloc (.cells #[.int .i64 y] 3)).heap.size) : OM w w1 w' g1 v' (pre ++ [y]) := by
  have hsz : (wr.alloc (.cells #[.int .i64 y] 3)).heap.size = wr.heap.size + 1 := by simp
  refine ⟨own_snoc ho rfl, fun e => absurd (hnil.1 e).2 (by decide), ?_, ?_, ?_, ?_⟩
  · rcases hloc with e | e
    · rw [e]; exact h.ne
    · rw [e, hsz]; intro e2; cases e2; have := h.lt; omega
  · rw [hg.block g1 (by rw [hsz]; have := h.lt; omega) (fun e => h.ne e.symm), ← h.blk]
    exact (below_alloc wr _).block g1 h.lt
  · have := hg.size; have := h.lt; omega
  · have hb := h.bel
    exact (hb.alloc hb.size _).grown hg (by have := hb.size; simp; omega) (fun k hk => (h.own.lt k hk).1)

set_option maxHeartbeats 8000000 in
set_option maxRecDepth 100000 in
theorem refOrdered_any (w : World) (a b : Option Addr) (ca cb : Nat) (ts : List As) (S : List Int) (h : Trl w a ts) (h20 : ts.length ≤ 20) (T : Tr ts) (hr : Row w b S) (hO : Ordered S) (hf : ∀ l ∈ S, falB ts l = true) (hl : S.length ≤ 7000) (hlt : (turn ts S).length ≤ 7000) :
    Calls Try.prog 35 #[.slice a ts.length ca, .slice b S.length cb] w fun e w' => TurnP w w' (turn ts S) e := by
  obtain ⟨i0, hi, hz0, hz1, hz2⟩ := info_parts Try.info3
  have CO := hide (fun w' (hb : Below w.heap.size w w') => order_nn b cb S w' (hr.below hb) (by omega) (lits_of_fal T hf))
  rw [order_self hO] at CO
  have hmx : maxL ts ≤ 100 := by
    unfold maxL
    have : ∀ (us : List As) (m : Int), m ≤ 100 → (∀ u ∈ us, u.lev ≤ 100) → us.foldl (fun m a => max m a.lev) m ≤ 100 := by
      intro us
      induction us with
      | nil => intro m h _; exact h
      | cons u us ih => intro m hm hu; exact ih _ (by have := hu u (by simp); show max m u.lev ≤ 100; omega) (fun v hv => hu v (by simp [hv]))
    refine this ts 0 (by omega) (fun u hu => ?_)
    obtain ⟨j, hj, rfl⟩ := List.mem_iff_getElem.1 hu
    rw [← nth_eq hj]
    have := T.lev_bd j hj
    omega
  go_enter Try.func35, Try.ntmps35
  go_wp2
  go_loop [6, 7] (fun lv i => ∃ k : Nat, k ≤ ts.length ∧ i = .int .i64 k ∧ lv = .int .i64 (maxL (ts.take k))) (fun _ i => ts.length - (intOf i).toNat)
  case atStart => exact ⟨0, Nat.zero_le _, rfl, rfl⟩
  case round =>
    obtain ⟨k, hk, rfl, rfl⟩ := hrel
    by_cases hlt : k < ts.length
    · have HM := hide (maxL_take hlt)
      obtain ⟨b1, off1, rfl, hA⟩ := h k hlt
      have hc1 := hA.c1
      have hab := hA.lt
      have hlt' : (k : Int) < ts.length := by omega
      have hnb : b1 ≠ w.heap.size := by omega
      clear hA h hr CO T hf
      generalize maxL (ts.take k) = m at *
      generalize (nth ts k).lev = le at *
      by_cases hg : m < le
      · have HM2 : Hid (maxL (ts.take (k + 1)) = le) := by show _ = _; rw [HM.out]; omega
        go_wp2
        go_round
        case rel => exact ⟨k + 1, by omega, by go_num, by rw [HM2.out]⟩
        case measure => simp [intOf]; omega
      · have HM2 : Hid (maxL (ts.take (k + 1)) = m) := by show _ = _; rw [HM.out]; omega
        go_wp2
        go_round
        case rel => exact ⟨k + 1, by omega, by go_num, by rw [HM2.out]⟩
        case measure => simp [intOf]; omega
    · have hz : ts.take k = ts := List.take_of_length_le (by omega)
      rw [hz]
      have hb0 : Below w.heap.size w (w.alloc (.cells #[] 3)) := below_alloc w _
      have HB0 := hide hb0
      have hnn := maxL_nn ts
      have HTD : Hid (turn ts S = downL ts S ((maxL ts).toNat + 1)) := rfl
      have hto : ((maxL ts).toNat : Int) = maxL ts := by omega
      obtain ⟨mx, hmxe⟩ : ∃ mx : Nat, mx = (maxL ts).toNat := ⟨_, rfl⟩
      rw [← hmxe] at hto HTD
      rw [← hto]
      rw [← hto] at hmx
      clear hto hz hnn hmxe
      go_upto_region 9 with (go_at_call 32; refine (unhide CO _ HB0.out).mono ?_; rintro e w1 ⟨v1, rfl, hown1, hnn1, hb1⟩)
      obtain ⟨g1, c1, rfl, hg1, hgl1, _⟩ := hown1.src hnn1
      have hrow1 := own_row hown1
      have hsz0 : (w.alloc (.cells #[] 3)).heap.size = w.heap.size + 1 := by simp
      have hbw1 : Below w.heap.size w w1 := HB0.out.trans (hb1.mono (by omega))
      have OM0 : OM w w1 w1 g1 (.slice (some ⟨w.heap.size, 0, none⟩) 0 0) [] := by
        have ho : Own w.heap.size (w.alloc (.cells #[] 3)) (.slice (some ⟨w.heap.size, 0, none⟩) 0 0) [] := World.ownsRow_lit (e := 3) (size := 1) w #[] 0 (Nat.le_refl _) (Nat.zero_le _) rfl
        exact ⟨ho.below hb1, by simp, by simp [Value.ownBlock]; omega, rfl, hgl1, hbw1⟩
      have HO0 := hide OM0
      have HROW := hide hrow1
      have CLV := hide (fun w' (hb : Below w.heap.size w w') l hl => refLevel_any w' a ca ts l (h.below hb) h20 T hl)
      clear OM0 hrow1 hown1 hb1 hnn1 HB0 hb0 CO hbw1 h hr
      generalize hv0 : Value.slice (some ⟨w.heap.size, 0, none⟩) 0 0 = v0 at *
      clear hv0
      go_loopw [5, 6] (fun v lv wr => ∃ (q : Nat) (l : Int) (pre : List Int), lv = .int .i64 l ∧ l = (q : Int) - 1 ∧ q ≤ mx + 1 ∧ pre ++ downL ts S q = turn ts S ∧ OM w w1 wr g1 v pre) (fun _ lv _ => (intOf lv + 1).toNat)
      case atStart => exact ⟨mx + 1, mx, [], rfl, by omega, Nat.le_refl _, by rw [HTD.out]; rfl, HO0.out⟩
      case round =>
        clear HO0 HTD
        obtain ⟨q, l, pre, rfl, hq, hqm, hpre, O⟩ := hrel
        cases q with
        | zero =>
          have hneg : l < 0 := by omega
          have HE : Hid (pre = turn ts S) := by show _ = _; rw [← hpre]; simp [downL]
          have HO := hide O
          clear O CLV hpre
          go_wp2
          go_ret
          exact ⟨_, rfl, by rw [← HE.out]; exact HO.out.own, HO.out.nn, HO.out.bel⟩
        | succ m =>
          obtain rfl : l = (m : Int) := by omega
          clear hq
          have hpl : pre.length ≤ 7000 := by
            have := congrArg List.length hpre
            rw [List.length_append] at this
            omega
          have HP : Hid ((pre ++ S.filter (fun l => levI ts l == (m : Int))) ++ downL ts S m = turn ts S) := by
            show _ = _
            rw [← hpre]
            conv => rhs; unfold downL
            rw [List.append_assoc]
          clear hpre
          have HO := hide O
          clear O
          go_upto_region 11 with fail
          go_loopw [5, 8] (fun v j wr => ∃ k : Nat, k ≤ S.length ∧ j = .int .i64 k ∧ OM w w1 wr g1 v (pre ++ (S.take k).filter (fun l => levI ts l == (m : Int)))) (fun _ j _ => S.length - (intOf j).toNat)
          case atStart => exact ⟨0, Nat.zero_le _, rfl, by simpa using HO.out⟩
          case round =>
            clear HO
            obtain ⟨k2, hk2, rfl, O⟩ := hrel
            by_cases hlt2 : k2 < S.length
            · obtain ⟨b3, off3, e3, hb3, hc3⟩ := O.row HROW.out k2 hlt2
              cases e3
              have C := (unhide CLV) wr O.bel S[k2] (hf _ (List.getElem_mem hlt2))
              have hlt2' : (k2 : Int) < S.length := by omega
              have hfl : ((S.take k2).filter (fun l => levI ts l == (m : Int))).length ≤ 7000 := Nat.le_trans (List.length_filter_le _ _) (by simp; omega)
              simp only [Nat.zero_add] at hc3
              by_cases he : levI ts S[k2] = (m : Int)
              · rw [he] at C
                replace C := hide C
                have HT := hide (filter_take_hit (p := fun l => levI ts l == (m : Int)) hlt2 (by simpa using he))
                have hown := O.own
                have HO := hide O
                have hbel := O.bel
                clear O CLV he HP
                generalize (S.take k2).filter (fun l => levI ts l == (m : Int)) = F at *
                have hPL : (pre ++ F).length ≤ 14000 := by simp; omega
                go_wp2_with (first
                  | (go_at_call 23; refine (unhide C).mono ?_; rintro e w0 ⟨rfl, hw0⟩; subst w0)
                  | (at_builtin; refine wpList_append_own_at _ rfl _ _ 23 rfl w.heap.size 3 i0 (.int .i64 0) 1 8 Try.underlying23 hi hz0 hz1 hz2 rfl (by decide) _ _ _ rfl (hown.alloc _) ⟨wr.heap.size, 0, none⟩ 1 1 [.int .i64 S[k2]] rfl rfl (cell_one_new _ _ _) (fun x hx => by simp at hx; subst hx; rfl) (by unfold maxLen; omega) (by omega) (by have := hbel.size; simp; omega) ?_; intro v' w5 hown5 hgrow5 hnil5 hloc5))
                have O5 := HO.out.more hown5 hgrow5 hnil5 hloc5
                have HO5 := hide O5
                clear O5 hown5 hgrow5 hnil5 hloc5
                go_wp2
                go_roundw
                case rel => exact ⟨k2 + 1, by omega, by go_num, by rw [HT.out, ← List.append_assoc]; exact HO5.out⟩
                case measure => simp [intOf]; omega
              · have heb : (levI ts S[k2] == (m : Int)) = false := by simpa using he
                have HT := hide (filter_take_miss (p := fun l => levI ts l == (m : Int)) hlt2 heb)
                have HO := hide O
                replace C := hide C
                clear O CLV he HP
                generalize levI ts S[k2] = lv at *
                go_wp2_with (go_at_call 23; refine (unhide C).mono ?_; rintro e w0 ⟨rfl, hw0⟩; subst w0)
                go_roundw
                case rel => exact ⟨k2 + 1, by omega, by go_num, by rw [HT.out]; exact HO.out⟩
                case measure => simp [intOf]; omega
            · have hz2 : S.take k2 = S := List.take_of_length_le (by omega)
              rw [hz2] at O
              have HO := hide O
              clear O CLV hz2
              go_wp2
              go_roundw
              case rel => exact ⟨m, (m : Int) - 1, _, rfl, rfl, by omega, HP.out, HO.out⟩
              case measure => simp [intOf]

end Go.Proofs.Ytaepanmkofhgoaa
