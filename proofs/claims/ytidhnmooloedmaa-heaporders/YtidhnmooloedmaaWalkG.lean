/- Contract: a new heap. -/
import Derived.Test.YtidhnmooloedmaaWalkC
import Derived.Deep.OwnRows
set_option linter.unusedVariables false
set_option linter.unusedSimpArgs false
namespace Go.Proofs.Ytidhnmooloedmaa
open Go.RowKit

set_option maxHeartbeats 400000 in
theorem new_no (w : World) (n : Int) (h : n < 0 ∨ 1048576 < n) : Calls Try.prog 18 #[.int .i64 n] w fun e w' => e = .returned (.tuple #[.pointer none, .int .i64 1]) ∧ w' = w := by
  rcases h with h | h
  · go_enter Try.func18, Try.ntmps18
    go_wp2
    all_goals
      go_ret2
      exact ⟨rfl, rfl⟩
  · have h0 : ¬ n < 0 := by omega
    go_enter Try.func18, Try.ntmps18
    go_wp2
    all_goals
      go_ret2
      exact ⟨rfl, rfl⟩

/-- A heap in the making: its variables are not put yet. -/
structure Raw (w W : World) (B S P O n : Nat) : Prop where
  lt : w.heap.size ≤ B ∧ w.heap.size ≤ S ∧ w.heap.size ≤ P ∧ w.heap.size ≤ O
  BS : B ≠ S
  BP : B ≠ P
  BO : B ≠ O
  SP : S ≠ P
  SO : S ≠ O
  PO : P ≠ O
  head : W.heap[B]? = some (.cells #[.pointer none, .slice (some ⟨S, 0, none⟩) (n + 1) (n + 1), .slice (some ⟨P, 0, none⟩) (n + 1) (n + 1), .slice (some ⟨O, 0, none⟩) n n, .int .i64 64] 46 (0, 0))
  rs : Blk W S (n + 1) (n + 1) (fun _ => 0)
  rp : Blk W P (n + 1) (n + 1) (fun _ => 0)
  ro : Blk W O n n (fun _ => 0)
  bel : Below w.heap.size w W

theorem heap4 (w : World) (o1 o2 o3 o4 : Obj) :
    let W := ((((w.alloc o1).alloc o2).alloc o3).alloc o4).drew
    W.heap[w.heap.size]? = some o1 ∧ W.heap[w.heap.size + 1]? = some o2 ∧ W.heap[w.heap.size + 1 + 1]? = some o3 ∧ W.heap[w.heap.size + 1 + 1 + 1]? = some o4 ∧ Below w.heap.size w W := by
  have s1 : (w.alloc o1).heap.size = w.heap.size + 1 := by simp
  have s2 : ((w.alloc o1).alloc o2).heap.size = w.heap.size + 1 + 1 := by simp
  have s3 : (((w.alloc o1).alloc o2).alloc o3).heap.size = w.heap.size + 1 + 1 + 1 := by simp
  have new : ∀ (w : World) (o : Obj), (w.alloc o).heap[w.heap.size]? = some o := by
    intro w o
    have e : (w.alloc o).heap = w.heap.push o := rfl
    rw [e]; simp
  intro W
  refine ⟨?_, ?_, ?_, ?_, ?_⟩
  · show ((((w.alloc o1).alloc o2).alloc o3).alloc o4).heap[w.heap.size]? = some o1
    rw [heap_alloc_old _ _ (by omega), heap_alloc_old _ _ (by omega), heap_alloc_old _ _ (by omega)]; exact new w o1
  · show ((((w.alloc o1).alloc o2).alloc o3).alloc o4).heap[w.heap.size + 1]? = some o2
    rw [heap_alloc_old _ _ (by omega), heap_alloc_old _ _ (by omega), ← s1]; exact new _ o2
  · show ((((w.alloc o1).alloc o2).alloc o3).alloc o4).heap[w.heap.size + 1 + 1]? = some o3
    rw [heap_alloc_old _ _ (by omega), ← s2]; exact new _ o3
  · show ((((w.alloc o1).alloc o2).alloc o3).alloc o4).heap[w.heap.size + 1 + 1 + 1]? = some o4
    rw [← s3]; exact new _ o4
  · have b := ((((Below.refl w.heap.size w).alloc (Nat.le_refl _) o1).alloc (by simp) o2).alloc (by simp; omega) o3).alloc (by simp; omega) o4
    exact ⟨b.os, b.tape, b.output, b.size, b.block⟩

theorem blk_made {w : World} {g N : Nat} (h : w.heap[g]? = some (.cells (madeCells #[.int .i64 0] N) 3)) (hN : N ≤ maxLen) : Blk w g N N (fun _ => 0) := by
  refine ⟨_, h, size_madeCells _ _, Nat.le_refl _, hN, fun i hi => ?_⟩
  rw [← Array.getElem?_toList, toList_madeCells_one]
  simp [hi]

theorem Raw.of {w W : World} {B S P O n N : Nat} (hN : N = n + 1) (hn : n ≤ 1048576) (lS : w.heap.size ≤ S) (lP : w.heap.size ≤ P) (lO : w.heap.size ≤ O) (hBS : S < B) (hBP : P < B) (hBO : O < B) (hSP : S ≠ P) (hSO : S ≠ O) (hPO : P ≠ O)
    (q1 : W.heap[S]? = some (.cells (madeCells #[.int .i64 0] N) 3)) (q2 : W.heap[P]? = some (.cells (madeCells #[.int .i64 0] N) 3)) (q3 : W.heap[O]? = some (.cells (madeCells #[.int .i64 0] n) 3))
    (q4 : W.heap[B]? = some (.cells #[.pointer none, .slice (some ⟨S, 0, none⟩) N N, .slice (some ⟨P, 0, none⟩) N N, .slice (some ⟨O, 0, none⟩) n n, .int .i64 64] 46)) (q5 : Below w.heap.size w W) : Raw w W B S P O n := by
  subst hN
  exact ⟨⟨by omega, lS, lP, lO⟩, by omega, by omega, by omega, hSP, hSO, hPO, q4, blk_made q1 (by unfold maxLen; omega), blk_made q2 (by unfold maxLen; omega), blk_made q3 (by unfold maxLen; omega), q5⟩

/-- As far as its variables are put. -/
def HS.mk2 (n k : Nat) : HS := { k := n, sc := fun _ => 0, pl := fun v => if 1 ≤ v ∧ v ≤ k then (v : Int) - 1 else 0, od := fun i => if i < k then i + 1 else 0, st := 64 }
theorem mk2_next (n k : Nat) : (HS.mk2 n k).put k (k + 1) = HS.mk2 n (k + 1) := by
  have e1 : upd (HS.mk2 n k).od k (k + 1) = (HS.mk2 n (k + 1)).od := by
    funext i; unfold upd HS.mk2; simp only
    by_cases e : i = k
    · subst e; simp
    · have : (i < k + 1) ↔ i < k := by omega
      simp [e, this]
  have e2 : upd (HS.mk2 n k).pl (k + 1) (k : Int) = (HS.mk2 n (k + 1)).pl := by
    funext i; unfold upd HS.mk2; simp only
    by_cases e : i = k + 1
    · subst e; rw [if_pos rfl, if_pos (by omega)]; omega
    · rw [if_neg e]
      by_cases e2 : 1 ≤ i ∧ i ≤ k
      · rw [if_pos e2, if_pos (by omega)]
      · rw [if_neg e2, if_neg (by omega)]
  show HS.mk n _ (upd (HS.mk2 n k).pl (k + 1) (k : Int)) (upd (HS.mk2 n k).od k (k + 1)) 64 = HS.mk n _ (HS.mk2 n (k + 1)).pl (HS.mk2 n (k + 1)).od 64
  rw [e1, e2]; rfl

set_option maxHeartbeats 2000000 in
theorem new_yes (w : World) (n : Nat) (h : n ≤ 1048576) : Calls Try.prog 18 #[.int .i64 (n : Int)] w fun e w' => ∃ B S P O, e = .returned (.tuple #[.pointer (some ⟨B, 0, none⟩), .int .i64 0]) ∧ Hp w' B S P O n n (HS.mk2 n n) ∧ Below w.heap.size w w' ∧ w.heap.size ≤ B ∧ w.heap.size ≤ S ∧ w.heap.size ≤ P ∧ w.heap.size ≤ O := by
  obtain ⟨N, hN⟩ : ∃ N : Nat, N = n + 1 := ⟨_, rfl⟩
  have mk1 : ∀ W : World, (Instr.makeSlice 25 (.int .i64 (N : Int)) (.int .i64 (N : Int))).run Try.prog W = .ok (.slice (some ⟨W.heap.size, 0, none⟩) N N) (W.alloc (.cells (madeCells #[.int .i64 0] N) 3)) := fun W => run_make_row' 25 3 (.int .i64 0) 8 Try.underlying25 Try.info3 rfl .i64 .i64 N (by omega) (by omega) W
  have mk2 : ∀ W : World, (Instr.makeSlice 25 (.int .i64 (n : Int)) (.int .i64 (n : Int))).run Try.prog W = .ok (.slice (some ⟨W.heap.size, 0, none⟩) n n) (W.alloc (.cells (madeCells #[.int .i64 0] n) 3)) := fun W => run_make_row' 25 3 (.int .i64 0) 8 Try.underlying25 Try.info3 rfl .i64 .i64 n (by omega) (by omega) W
  have eN : (n : Int) + 1 = (N : Int) := by omega
  have hwN : IntKind.i64.wrap (N : Int) = N := by rw [IntKind.wrap_i64]; omega
  have HN := hide hN
  clear hN
  go_enter Try.func18, Try.ntmps18
  go_upto_region 3 with fail
  go_cut [4] from 12 to 21 (fun x wx => ∃ B S P O, x = .pointer (some ⟨B, 0, none⟩) ∧ Hid (Raw w wx B S P O n))
  case first =>
    go_region
    all_goals
      go_wp2_with fail
      go_meet
      case rel =>
        clear mk1 mk2 eN hwN
        obtain ⟨q1, q2, q3, q4, q5⟩ := heap4 w _ _ _ _
        first
          | exact ⟨_, _, _, _, rfl, Raw.of HN.out h (by omega) (by omega) (by omega) (by omega) (by omega) (by omega) (by omega) (by omega) (by omega) q1 q2 q3 q4 q5⟩
          | exact ⟨_, _, _, _, rfl, Raw.of HN.out h (by omega) (by omega) (by omega) (by omega) (by omega) (by omega) (by omega) (by omega) (by omega) q1 q3 q2 q4 q5⟩
          | exact ⟨_, _, _, _, rfl, Raw.of HN.out h (by omega) (by omega) (by omega) (by omega) (by omega) (by omega) (by omega) (by omega) (by omega) q2 q1 q3 q4 q5⟩
          | exact ⟨_, _, _, _, rfl, Raw.of HN.out h (by omega) (by omega) (by omega) (by omega) (by omega) (by omega) (by omega) (by omega) (by omega) q2 q3 q1 q4 q5⟩
          | exact ⟨_, _, _, _, rfl, Raw.of HN.out h (by omega) (by omega) (by omega) (by omega) (by omega) (by omega) (by omega) (by omega) (by omega) q3 q1 q2 q4 q5⟩
          | exact ⟨_, _, _, _, rfl, Raw.of HN.out h (by omega) (by omega) (by omega) (by omega) (by omega) (by omega) (by omega) (by omega) (by omega) q3 q2 q1 q4 q5⟩
  case rest =>
  obtain ⟨B, S, P, O, rfl, HR⟩ := hcut
  clear mk1 mk2 eN hwN HN
  have cB : wc.cell? ⟨B, 0, none⟩ = some (.pointer none) := by simp [World.cell?, HR.out.head]
  have fB : wc.frozen? ⟨B, 0, none⟩ = false := by simp [World.frozen?, HR.out.head]
  have h0 : Hp (wc.setCell ⟨B, 0, none⟩ (.pointer (some ⟨B, 0, none⟩))) B S P O n n (HS.mk2 n 0) := by
    obtain ⟨_, a1, a2, a3, a4, a5, a6, hd, r1, r2, r3, _⟩ := HR.out
    refine ⟨a1, a2, a3, a4, a5, a6, h, (hd_set hd).trans (by simp [HS.mk2]), (r1.same (hd_far (Ne.symm a1))).congr (fun i _ => rfl), (r2.same (hd_far (Ne.symm a2))).congr (fun i _ => ?_), (r3.same (hd_far (Ne.symm a3))).congr (fun i _ => rfl)⟩
    show (if 1 ≤ i ∧ i ≤ 0 then (i : Int) - 1 else 0) = 0
    rw [if_neg (by omega)]
  have hb0 : Below w.heap.size w (wc.setCell ⟨B, 0, none⟩ (.pointer (some ⟨B, 0, none⟩))) := HR.out.bel.setCell (by exact HR.out.lt.1) _
  have H0 := hide h0
  have HB0 := hide hb0
  have HL := hide HR.out.lt
  clear h0 hb0 HR
  go_wp2
  clear cB fB
  go_loopw [27] (fun x W => ∃ k : Nat, x = .int .i64 (k : Int) ∧ k ≤ n ∧ Hp W B S P O n n (HS.mk2 n k) ∧ Below w.heap.size w W) (fun x _ => n - (intOf x).toNat)
  case atStart => exact ⟨0, rfl, Nat.zero_le _, H0.out, HB0.out⟩
  case round =>
    obtain ⟨k, rfl, hk, hp, hb⟩ := hrel
    clear H0 HB0
    by_cases hlt : k < n
    · have hput := put_any wr B S P O n n (HS.mk2 n k) k (k + 1) hp hlt (by omega) (by show n ≤ _; omega)
      rw [mk2_next] at hput
      have G := hide hput
      have HB := hide hb
      clear hput hp hb
      go_wp2_with (first | (go_at_call 26; refine (unhide G).mono ?_; rintro e w2 ⟨rfl, hp2, kp2⟩))
      go_roundw
      case rel =>
        refine ⟨k + 1, by go_num, by omega, hp2, ⟨kp2.os.trans HB.out.os, kp2.tape.trans HB.out.tape, kp2.output.trans HB.out.output, Nat.le_trans HB.out.size kp2.size, fun i hi => ?_⟩⟩
        have := HL.out
        refine (kp2.block i (Nat.lt_of_lt_of_le hi HB.out.size) ?_).trans (HB.out.block i hi)
        unfold Of; omega
      case measure => simp [intOf]; omega
    · have hkk : k = n := by omega
      have HP := hide hp
      have HB := hide hb
      clear hp hb
      go_wp2
      go_ret2
      exact ⟨B, S, P, O, rfl, hkk ▸ HP.out, HB.out, HL.out⟩
end Go.Proofs.Ytidhnmooloedmaa
