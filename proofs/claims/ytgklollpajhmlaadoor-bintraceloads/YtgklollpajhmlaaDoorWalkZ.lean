/- Contracts of the program: a clause's and a proof's bytes are decoded. -/
import Derived.Test.YtgklollpajhmlaaDoorWalkY
set_option linter.unusedVariables false
set_option linter.unusedSimpArgs false
namespace Go.Proofs.YtgklollpajhmlaaDoor
open Go.RowKit Go.Maps

attribute [local go_sem ↓] Go.wp_at_zero Go.wp_at_succ

theorem Txt.drop {B : Nat} {w : World} {b off k : Nat} {t : List UInt8} (h : Txt B w (some ⟨b, off, none⟩) t) : Txt B w (some ⟨b, off + k, none⟩) (t.drop k) := by
  intro i hi
  have hi' : k + i < t.length := by simp at hi; omega
  obtain ⟨b', off', e, hb, hc⟩ := h (k + i) hi'
  simp at e
  obtain ⟨rfl, rfl⟩ := e
  refine ⟨b, off + k, rfl, hb, ?_⟩
  rw [List.getElem_drop, Nat.add_assoc]
  exact hc

/-- What is told of a clause's bytes. -/
def ToldC (base : Nat) (w : World) (A : Cla) (e : Ending) (w' : World) : Prop :=
  ∃ v, e = .returned (.tuple #[v, .int .i64 (A.2.1 : Int), .int .i64 A.1]) ∧ Own base w' v A.2.2 ∧ Below base w w'

theorem toldC_of {base : Nat} {w w' : World} {A : Cla} {v : Value} {p : Nat} {x : Int} {l : List Int} (h : A = (x, p, l)) (ho : Own base w' v l) (hb : Below base w w') : ToldC base w A (.returned (.tuple #[v, .int .i64 (p : Int), .int .i64 x])) w' := by
  subst h; exact ⟨v, rfl, ho, hb⟩

theorem Own.nil (base : Nat) (w : World) : Own base w (.slice none 0 0) [] := World.ownsRow_nil _ _ _ _

theorem u8_eq0 (c : UInt8) : ((c.toNat : Int) = 0) = (c = 0) := u8_is c 0 (by omega)

set_option maxRecDepth 100000 in
set_option maxHeartbeats 4000000 in
theorem decodeClause_any (w : World) (b off cap : Nat) (t : List UInt8) (p : Nat) (ht : Txt w.heap.size w (some ⟨b, off, none⟩) t) (hm : t.length ≤ 4194304) (hc : t.length ≤ cap) (hp : p ≤ t.length) :
    Calls Tryd.prog 22 #[.slice (some ⟨b, off, none⟩) t.length cap, .int .i64 (p : Int)] w (ToldC w.heap.size w (clP 0 [] p (t.drop p))) := by
  obtain ⟨i0, hi, hz0, hz1, hz2⟩ := info_parts Tryd.info3
  have HT := hide ht
  clear ht
  go_enter Tryd.func22, Tryd.ntmps22
  go_wp2
  go_loopw [1, 7] (fun zi zc wr => ∃ (k : Nat) (c : List Int) (a1 : Option Addr) (c1 : Nat), k ≤ t.length ∧ zi = .int .i64 (k : Int) ∧ zc = .slice a1 c.length c1 ∧ Own w.heap.size wr (.slice a1 c.length c1) c ∧ c.length ≤ 4096 ∧ Below w.heap.size w wr ∧ Hid (clP 0 [] p (t.drop p) = clP 0 c k (t.drop k))) (fun zi _ _ => t.length - (intOf zi).toNat)
  case atStart => exact ⟨p, [], none, 0, hp, rfl, rfl, Own.nil _ _, by simp, Below.refl _ _, rfl⟩
  case round =>
    obtain ⟨k, c, a1, c1, hk, rfl, rfl, ho, hcl, hB, HA⟩ := hrel
    have hBz := hB.size
    by_cases hlt : k < t.length
    · have hT := HT.out.below hB
      obtain ⟨b', off', e, hb, hcell⟩ := hT k hlt
      simp at e
      obtain ⟨rfl, rfl⟩ := e
      have hbw : b < wr.heap.size := by omega
      have hki : (k : Int) < t.length := by omega
      have hA := HA.out
      rw [List.drop_eq_getElem_cons hlt, clP_cons, ← List.drop_eq_getElem_cons hlt] at hA
      have HO := hide ho
      have HB := hide hB
      by_cases h0 : t[k] = 0
      · rw [if_pos h0] at hA
        have HAN := hide hA
        have hc0 : (t[k].toNat : Int) = 0 := by rw [u8_eq0]; exact h0
        rw [hc0] at hcell
        clear hA HA hT ho hB h0 hc0
        go_wp2
        refine bodyPost_ret (v := .tuple #[.slice a1 c.length c1, .int .i64 ((k + 1 : Nat) : Int), .int .i64 0]) (by simp [results, Tryd.results22, go_sem]) rfl ?_
        exact toldC_of HAN.out HO.out HB.out
      · rw [if_neg h0] at hA
        have hc0 : ¬ (t[k].toNat : Int) = 0 := by rw [u8_eq0]; exact h0
        have hc0' : ((t[k].toNat : Int) == 0) = false := by simpa using hc0
        have hcp : (k : Int) < cap := by omega
        have CD := decodeLiteral_any wr b (off + k) (cap - k) (t.drop k) ((Txt.drop hT).mono hBz) (by simp; omega)
        have hle := tk_le (t.drop k)
        rw [List.length_drop] at CD hle
        generalize htk : tk (t.drop k) = T at *
        clear htk
        obtain ⟨l, n⟩ := T
        simp only at CD hle hA
        have CD2 : Hid (Calls Tryd.prog 34 #[.slice (some ⟨b, off + k, none⟩) (t.length - k) (cap - k)] wr fun e w' => e = .returned (.tuple #[.int .i64 l, .int .i64 (n : Int)]) ∧ Hid (Own w.heap.size w' (.slice a1 c.length c1) c) ∧ Hid (Below w.heap.size w w')) := CD.mono fun e w' ⟨h1, h2⟩ => ⟨h1, ho.below h2, hB.trans (h2.mono hBz)⟩
        generalize t[k].toNat = cc at *
        clear CD HA hT ho hB h0 hc0 HO HB
        by_cases hn : n = 0
        · rw [if_pos hn] at hA
          have HAN := hide hA
          subst hn
          clear hA
          go_wp2_with (go_at_call 34; refine (unhide CD2).mono ?_; rintro e w2 ⟨rfl, HO, HB⟩)
          refine bodyPost_ret (v := .tuple #[.slice none 0 0, .int .i64 (k : Int), .int .i64 2]) (by simp [results, Tryd.results22, go_sem]) rfl ?_
          exact toldC_of HAN.out (Own.nil _ _) HB.out
        · rw [if_neg hn] at hA
          have hni : ((n : Int) == 0) = false := beq_no (by omega)
          by_cases h4 : c.length = 4096
          · rw [if_pos h4] at hA
            have HAN := hide hA
            have h4i : ((c.length : Int) == 4096) = true := by simp; omega
            clear hA
            go_wp2_with (go_at_call 34; refine (unhide CD2).mono ?_; rintro e w2 ⟨rfl, HO, HB⟩)
            refine bodyPost_ret (v := .tuple #[.slice none 0 0, .int .i64 (k : Int), .int .i64 3]) (by simp [results, Tryd.results22, go_sem]) rfl ?_
            exact toldC_of HAN.out (Own.nil _ _) HB.out
          · rw [if_neg h4] at hA
            have HAN := hide hA
            have h4i : ((c.length : Int) == 4096) = false := beq_no (by omega)
            have HLL : Hid ((c ++ [l]).length = c.length + 1) := by show _ = _; simp
            have HDD : Hid ((t.drop k).drop n = t.drop (k + n)) := by show _ = _; rw [List.drop_drop]
            clear hA
            go_wp2_with (first
              | (go_at_call 34; refine (unhide CD2).mono ?_; rintro e w2 ⟨rfl, HO, HB⟩; have hz2w := HB.out.size)
              | (at_builtin; refine wpList_append_own_at _ rfl _ _ 34 rfl w.heap.size 3 i0 (.int .i64 0) 1 8 Tryd.underlying34 hi hz0 hz1 hz2 rfl (by decide) _ _ _ rfl (HO.out.alloc _) ⟨w2.heap.size, 0, none⟩ 1 1 [.int .i64 l] rfl rfl (cell_one_new _ _ _) (fun x hx => by simp at hx; subst hx; rfl) (by unfold maxLen; omega) (by omega) (by simp; omega) ?_; intro v3 w3 hown3 hgrow3 hnil3 hat3; obtain ⟨a3, c3, rfl⟩ := owns_shape hown3))
            go_roundw
            case rel => exact ⟨k + n, c ++ [l], a3, c3, by omega, by go_num, by rw [HLL.out], by rw [HLL.out]; exact own_snoc hown3 rfl, by rw [HLL.out]; omega, (HB.out.alloc hz2w _).grown hgrow3 (by simp; omega) (fun j hj => (World.ownsRow.lt HO.out j hj).1), by show _ = _; rw [HAN.out, HDD.out]⟩
            case measure => simp [intOf]; omega
    · have hke : t.drop k = [] := List.drop_eq_nil_of_le (by omega)
      have hA := HA.out
      rw [hke, clP_nil] at hA
      have hk2 : k = t.length := by omega
      subst hk2
      have HAN := hide hA
      have HB := hide hB
      clear hA HA hke ho hB
      go_wp2
      refine bodyPost_ret (v := .tuple #[.slice none 0 0, .int .i64 (t.length : Int), .int .i64 2]) (by simp [results, Tryd.results22, go_sem]) rfl ?_
      exact toldC_of HAN.out (Own.nil _ _) HB.out

end Go.Proofs.YtgklollpajhmlaaDoor
