/- Contracts: the law's word, its words. -/
import Derived.Test.YtdjfciigfledhaaVs
set_option linter.unusedVariables false
set_option linter.unusedSimpArgs false
namespace Go.Proofs.Ytdjfciigfledhaa
open Go.RowKit Go.Maps

/-- In the midst of a word. -/
structure WM (w W : World) (B M : Nat) (v v' : Value) (g g' : List Gt) (k p cp : Nat) (l : List Int) (ai : Option Addr) (c : Nat) (L0 L : List Bool) (N : Nat) : Prop where
  st : St w W B M v v' g g' k
  own : W.ownsRow w.heap.size 3 1 (.slice (some ⟨p, 0, none⟩) k cp) k (l.map (Value.int .i64))
  bo : Bo W ai c L
  sm : Sm g' l L N k
  pre : ∃ e, L = L0 ++ e ∧ e.length ≤ k
/-- What a word tells. -/
def WoP (w : World) (B M : Nat) (v : Value) (g : List Gt) (n N : Nat) (L0 : List Bool) (e : Ending) (w' : World) : Prop :=
  ∃ v' g' p cp l ai c L, e = .returned (.tuple #[.slice (some ⟨p, 0, none⟩) n cp, .slice ai L.length c]) ∧ WM w w' B M v v' g g' n p cp l ai c L0 L N

theorem int_src (W : World) (x : Int) : ∀ j u, ([Value.int .i64 x] : List Value)[j]? = some u → (W.alloc (.cells #[.int .i64 x] 3)).cell? ((⟨W.heap.size, 0, none⟩ : Addr).add j) = some u :=
  World.news_of_block (cs := #[.int .i64 x]) (t := 3) (fr := (0, 0)) (heap_alloc_new W _)
section
variable {w W W1 W2 : World} {B M k p cp p1 c1 c N : Nat} {v v' v1 : Value} {g g' g1 : List Gt} {l : List Int} {ai : Option Addr} {L0 L : List Bool} {x : Int}
theorem WM.fixed {o : Obj} (h : WM w W B M v v' g g' k p cp l ai c L0 L N) (ho : W1.ownsRow w.heap.size 3 1 (.slice (some ⟨p1, 0, none⟩) (k + 1) c1) (k + 1) (l.map (Value.int .i64) ++ [.int .i64 x]))
    (hg : (W.alloc o).grownBy W1 (Value.slice (some ⟨p, 0, none⟩) k cp).ownBlock) (hx : x = ci (tb N k)) : WM w W1 B M v v' g g' (k + 1) p1 c1 (l ++ [x]) ai c L0 L N := by
  have hb := below_alloc W o
  have ho1 := row_below h.own hb
  obtain ⟨_, _, _, cs, fr, hq⟩ := io_own ho1
  have hs := h.st.below hb
  refine ⟨(hs.turn (q := p) (row_base ho1) (hs.gr.typ hq (by decide) (by decide)) hg).mono (Nat.le_succ _), by simpa using ho, (h.bo.below hb).grown hq hg, by rw [hx]; exact h.sm.const, ?_⟩
  obtain ⟨e, h1, h2⟩ := h.pre
  exact ⟨e, h1, by omega⟩
/-- An input more: its literal is behind the word, its bit not yet behind the bools. -/
structure WI (w W : World) (B M : Nat) (v v' : Value) (g g' : List Gt) (k p cp : Nat) (l : List Int) (ai : Option Addr) (c : Nat) (L0 L : List Bool) (b : Bool) (N : Nat) : Prop where
  st : St w W B M v v' g g' k
  own : W.ownsRow w.heap.size 3 1 (.slice (some ⟨p, 0, none⟩) k cp) k (l.map (Value.int .i64))
  bo : Bo W ai c L
  sm : Sm g' l (L ++ [b]) N k
  pre : ∃ e, L ++ [b] = L0 ++ e ∧ e.length ≤ k
theorem WM.input {o : Obj} (h : WM w W B M v v' g g' k p cp l ai c L0 L N) (s : St W W1 B M v' v1 g' g1 1) (hx : Lt g1 x (fun ins => ins.getD (cntF g' 0) false)) (hc : cntF g1 0 = cntF g' 0 + 1)
    (ho : W2.ownsRow w.heap.size 3 1 (.slice (some ⟨p1, 0, none⟩) (k + 1) c1) (k + 1) (l.map (Value.int .i64) ++ [.int .i64 x]))
    (hg : (W1.alloc o).grownBy W2 (Value.slice (some ⟨p, 0, none⟩) k cp).ownBlock) : WI w W2 B M v v1 g g1 (k + 1) p1 c1 (l ++ [x]) ai c L0 L (tb N k) N := by
  have hb := below_alloc W1 o
  have ho1 := row_below (own_st h.own h.st.gr s) hb
  obtain ⟨_, _, _, cs, fr, hq⟩ := io_own ho1
  have hs := (h.st.trans s).below hb
  refine ⟨hs.turn (q := p) (row_base ho1) (hs.gr.typ hq (by decide) (by decide)) hg, by simpa using ho, ((h.bo.st h.st.gr s).below hb).grown hq hg, h.sm.input s.grow hc hx, ?_⟩
  obtain ⟨e, h1, h2⟩ := h.pre
  exact ⟨e ++ [tb N k], by rw [h1, List.append_assoc], by simp; omega⟩
theorem WI.done {b : Bool} {base q n2 c2 : Nat} (h : WI w W B M v v' g g' k p cp l ai c L0 L b N) (hb : Below W.heap.size W W1) (hi : W1.ownsRow base 4 1 (.slice (some ⟨q, 0, none⟩) n2 c2) n2 (bcl (L ++ [b]))) : n2 = (L ++ [b]).length ∧ WM w W1 B M v v' g g' k p cp l (some ⟨q, 0, none⟩) c2 L0 (L ++ [b]) N := by
  obtain ⟨e1, e2⟩ := bo_own hi
  exact ⟨e1, h.st.below hb, row_below h.own hb, e2, h.sm, h.pre⟩
end

section
variable (w : World) (B M : Nat) (v : Value) (g : List Gt)
set_option maxHeartbeats 4000000 in
set_option maxRecDepth 100000 in
theorem lword_any (ai : Option Addr) (c : Nat) (L : List Bool) (n N : Nat) (fx : Int)
    (hA : Gr w B M v g) (hl : g.length ≤ 900000) (hb : Bo w ai c L) (hL : L.length ≤ 100) (h16 : n ≤ 16) (hN : N ≤ 65536) (hc : L.length = cntF g 0) (hf0 : 0 ≤ fx) (hf1 : fx ≤ 4294967295) :
    Calls Try.prog 48 #[.pointer (some ⟨B, 0, none⟩), .int .i64 (N : Int), .int .i64 (n : Int), .int .u32 fx, .slice ai L.length c] w (WoP w B M v g n N L) := by
  obtain ⟨i3, hi3, hz3, hy3, hx3⟩ := info_parts Try.info3
  obtain ⟨i4, hi4, hz4, hy4, hx4⟩ := info_parts Try.info4
  have BT : Hid (∀ (W : World) (k : Nat), k ≤ 16 → Calls Try.prog 46 #[.int .i64 (N : Int), .int .i64 (k : Int)] W fun e w' => e = .returned (.int .i64 (ci (tb N k))) ∧ w' = W) := fun W k hk => by
    have e : ((N / 2 ^ k % 2 : Nat) : Int) = ci (tb N k) := by
      unfold tb ci
      by_cases h : N / 2 ^ k % 2 = 1
      · rw [h]; simp
      · have : N / 2 ^ k % 2 = 0 := by omega
        rw [this]; simp
    rw [← e]
    exact bit_any W N k (by omega) (by omega)
  have HW0 : Hid (WM w (w.alloc (.cells #[] 3)) B M v v g g 0 w.heap.size 0 [] ai c L L N) :=
    ⟨(St.refl hA).below (below_alloc _ _), lit0 w 3 1, hb.below (below_alloc _ _), ⟨fun k hk => by simp at hk, hc, fun t => rfl⟩, [], by simp, Nat.zero_le _⟩
  have HA := hide hA
  clear hA hb hc
  go_enter Try.func48, Try.ntmps48
  go_upto_region 2 with fail
  refine forget (P := fun W => Code.wp Try.prog _ _ _ W) (fun W => Hid (WM w W B M v v g g 0 w.heap.size 0 [] ai c L L N)) HW0 ?_
  clear HW0
  intro W0 HW0
  go_wp2
  go_loopw [4, 12, 13] (fun z y i W => ∃ k : Nat, k ≤ n ∧ i = .int .i64 (k : Int) ∧ ∃ v' g' p cp l ai' c' L', y = .slice (some ⟨p, 0, none⟩) k cp ∧ z = .slice ai' L'.length c' ∧ Hid (WM w W B M v v' g g' k p cp l ai' c' L L' N)) (fun _ _ i _ => n - (intOf i).toNat)
  case atStart => exact ⟨0, Nat.zero_le _, rfl, v, g, _, _, _, _, _, _, rfl, rfl, HW0⟩
  case round =>
    clear HW0
    obtain ⟨k, hk, rfl, v', g', p, cp, l, ai', c', L', rfl, rfl, HM⟩ := hrel
    by_cases hlt : k < n
    · have BT1 := hide (unhide BT wr k (by omega))
      clear BT
      obtain ⟨b, hb⟩ : ∃ b, tb N k = b := ⟨_, rfl⟩
      rw [hb] at BT1
      have HBB := hide hb
      clear hb
      have hL' : L'.length ≤ 116 := by
        obtain ⟨e, rfl, he⟩ := HM.out.pre
        simp; omega
      obtain ⟨x, hx⟩ : ∃ x, ci b = x := ⟨_, rfl⟩
      rw [hx] at BT1
      have HX : Hid (x = ci (tb N k)) := by unfold Hid; rw [HBB.out, hx]
      have hx1 : (x == 1) = b := by rw [← hx]; cases b <;> rfl
      clear hx
      have HOWN := hide HM.out.own
      obtain ⟨f, hf⟩ : ∃ f, ((fx / 2 ^ k).tmod 2 == 1) = f := ⟨_, rfl⟩
      cases f
      · have IN := hide (inX HM.out.st.gr (by have := HM.out.st.len; omega))
        go_upto_region 6 with (first | (go_at_call 46; refine (unhide BT1).mono ?_; rintro e w0 ⟨rfl, hw0⟩; subst w0))
        go_upto_region 9 with (first
          | (go_at_call 30; refine (unhide IN).mono ?_; rintro e w1 ⟨y1, v1, g1, rfl, s1, hl1, hc1⟩; have HO1 := hide (own_st HOWN.out HM.out.st.gr s1); have hz1 := Nat.le_trans HM.out.st.kp.size s1.kp.size)
          | (at_builtin; refine wpList_append_lies _ rfl _ _ 27 rfl w.heap.size 3 i3 (.int .i64 0) 1 8 Try.underlying27 hi3 hz3 hy3 hx3 rfl (by decide) (.slice (some ⟨p, 0, none⟩) k cp) k _ rfl (HO1.out.alloc _) ⟨w1.heap.size, 0, none⟩ 1 1 [.int .i64 y1] rfl rfl (int_src w1 y1) (by simp [Value.oneCell']) (by decide) (by unfold maxLen; omega) (by omega) (by simp; omega) (w1.heap.size + 1) (by simp) ?_; intro p2 cp2 w2 hown2 hgrow2 hat2 hlt2; have HI := hide (HM.out.input s1 hl1 hc1 hown2 hgrow2)))
        rw [HBB.out] at HI
        clear HM HOWN HO1 IN s1 hl1 hc1 hown2 hgrow2 hat2 hlt2 hz1 BT1 HX
        have hown3 := lit0 w2 4 1
        have hb3 := below_alloc w2 (.cells #[] 4)
        have HB3 := hide hb3
        have hsrc := (HI.out.bo.below hb3).src
        clear hb3
        have h1c : ∀ u ∈ bcl L', u.oneCell' = true := by
          intro u hu
          obtain ⟨z, _, rfl⟩ := List.mem_map.1 hu
          rfl
        go_wp2_with (first
          | (at_builtin; refine wpList_append_any rfl _ _ 28 rfl w2.heap.size 4 i4 (.bool false) 1 1 Try.underlying28 hi4 hz4 hy4 hx4 rfl (by decide) (.slice (some ⟨w2.heap.size, 0, none⟩) 0 0) 0 [] rfl hown3 (by simp) ai' L'.length c' (bcl L') rfl hsrc h1c (by unfold maxLen; omega) (by omega) (by simp) ?_; intro g4 cap4 w4 hown4 hgrow4 hat4 hlt4; simp only [Nat.zero_add, List.nil_append] at hown4 ⊢; have hg4 := row_base hown4; have hb4 := HB3.out.grown hgrow4 (by simp) (by intro k hk; cases hk; exact Nat.le_refl _); have hzz := hb4.size; have HB4 := hide hb4; clear hb4 hsrc hown3; have HO4 := hide hown4)
          | (at_builtin; refine wpList_append_lies _ rfl _ _ 28 rfl w2.heap.size 4 i4 (.bool false) 1 1 Try.underlying28 hi4 hz4 hy4 hx4 rfl (by decide) (.slice (some ⟨g4, 0, none⟩) L'.length cap4) L'.length _ rfl (HO4.out.alloc _) ⟨w4.heap.size, 0, none⟩ 1 1 [.bool b] rfl rfl (bool_src w4 b) (by simp [Value.oneCell']) (by decide) (by unfold maxLen; omega) (by omega) (by simp; omega) (w4.heap.size + 1) (by simp) ?_; intro p5 cap5 w5 hown5 hgrow5 hat5 hlt5))
        have hb5 := (HB4.out.alloc hzz (.cells #[.bool b] 4)).grown hgrow5 (by simp; omega) (by intro k hk; cases hk; exact hg4)
        rw [← bcl_snoc] at hown5
        have HD := HI.out.done hb5 hown5
        have hlen : (L' ++ [b]).length = L'.length + 1 := by simp
        go_roundw
        case rel => exact ⟨k + 1, by omega, by go_num, v1, g1, p2, cp2, _, some ⟨p5, 0, none⟩, cap5, L' ++ [b], rfl, by rw [hlen], HD.2⟩
        case measure => simp [intOf]; omega
      · go_upto_region 6 with (first | (go_at_call 46; refine (unhide BT1).mono ?_; rintro e w0 ⟨rfl, hw0⟩; subst w0))
        have hz := HM.out.st.kp.size
        go_wp2_with (first | (at_builtin; refine wpList_append_lies _ rfl _ _ 27 rfl w.heap.size 3 i3 (.int .i64 0) 1 8 Try.underlying27 hi3 hz3 hy3 hx3 rfl (by decide) (.slice (some ⟨p, 0, none⟩) k cp) k _ rfl (HOWN.out.alloc _) ⟨wr.heap.size, 0, none⟩ 1 1 [.int .i64 x] rfl rfl (int_src wr x) (by simp [Value.oneCell']) (by decide) (by unfold maxLen; omega) (by omega) (by simp; omega) (wr.heap.size + 1) (by simp) ?_; intro g1 cap1 w4 hown4 hgrow4 hat4 hlt4))
        go_roundw
        case rel => exact ⟨k + 1, by omega, by go_num, v', g', g1, cap1, _, ai', c', L', rfl, rfl, HM.out.fixed hown4 hgrow4 HX.out⟩
        case measure => simp [intOf]; omega
    · have hke : k = n := by omega
      subst hke
      have HF : Hid (WoP w B M v g k N L (.returned (.tuple #[.slice (some ⟨p, 0, none⟩) k cp, .slice ai' L'.length c'])) wr) := ⟨v', g', p, cp, l, ai', c', L', rfl, HM.out⟩
      clear HM
      go_wp2
      go_ret2
      exact HF.out
end
end Go.Proofs.Ytdjfciigfledhaa
