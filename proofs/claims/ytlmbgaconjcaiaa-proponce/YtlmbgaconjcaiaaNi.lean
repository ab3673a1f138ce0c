/- Contracts of the law: any act; which acts are light. -/
import Derived.Test.YtlmbgaconjcaiaaNAll
import Derived.Test.YtlmbgaconjcaiaaNh
set_option linter.unusedVariables false
set_option linter.unusedSimpArgs false
namespace Go.Proofs.Ytlmbgaconjcaiaa
open Go.RowKit

/-- An act. -/
structure ActD where
  d : Int
  l : Int
  c : List Int

structure ActAt (w : World) (b off k : Nat) (x : ActD) (ai : Option Addr) (ci : Nat) : Prop where
  c0 : w.cell? ⟨b, off + k * 3, none⟩ = some (.int .i64 x.d)
  c1 : w.cell? ⟨b, off + k * 3 + 1, none⟩ = some (.int .i64 x.l)
  c2 : w.cell? ⟨b, off + k * 3 + 2, none⟩ = some (.slice ai x.c.length ci)
  row : Row w ai x.c
  len : x.c.length ≤ maxLen
  nil : ai = none → ci = 0

def Acts (w : World) (a : Option Addr) (l : List ActD) : Prop :=
  ∀ k (h : k < l.length), ∃ b off ai ci, a = some ⟨b, off, none⟩ ∧ b < w.heap.size ∧ ActAt w b off k l[k] ai ci
theorem Acts.below {w w' : World} {a : Option Addr} {l : List ActD} (h : Acts w a l) (hb : Below w.heap.size w w') : Acts w' a l := by
  intro k hk
  obtain ⟨b, off, ai, ci, e, hlt, hA⟩ := h k hk
  exact ⟨b, off, ai, ci, e, Nat.lt_of_lt_of_le hlt hb.size, (hb.cell (p := ⟨b, _, none⟩) hlt).trans hA.c0, (hb.cell (p := ⟨b, _, none⟩) hlt).trans hA.c1, (hb.cell (p := ⟨b, _, none⟩) hlt).trans hA.c2, hA.row.below hb, hA.len, hA.nil⟩

/-- Are acts light? -/
def lightA (l : List ActD) : Bool := (l.take 40).all (fun x => decide (x.c.length ≤ 100))

set_option maxHeartbeats 4000000 in
set_option maxRecDepth 100000 in
theorem lightA_any (a : Option Addr) (cap : Nat) (l : List ActD) (w : World) (hg : Acts w a l) (hl : l.length ≤ maxLen) :
    Calls Try.prog 7 #[.slice a l.length cap] w fun e w' => e = .returned (.bool (lightA l)) ∧ w' = w := by
  unfold maxLen at hl
  go_enter Try.func7, Try.ntmps7
  go_wp2
  go_loop [3] (fun i => ∃ k : Nat, k ≤ l.length ∧ k ≤ 40 ∧ i = .int .i64 k ∧ Hid ((l.take k).all (fun x => decide (x.c.length ≤ 100)) = true)) (fun i => 40 - (intOf i).toNat)
  case atStart => exact ⟨0, Nat.zero_le _, by omega, rfl, by simp [Hid]⟩
  case round =>
    obtain ⟨k, hk, hk4, rfl, HN⟩ := hrel
    by_cases hlt : k < l.length ∧ k < 40
    · obtain ⟨h1, h2⟩ := hlt
      have h1' : (k : Int) < l.length := by omega
      have h2' : (k : Int) < 40 := by omega
      have d1 : decide (k < l.length) = true := decide_eq_true h1
      have d2 : decide (k < 40) = true := decide_eq_true h2
      obtain ⟨b, off, ai, ci, rfl, hb, hA⟩ := hg k h1
      have k2 := hA.c2
      have hm := hA.len
      unfold maxLen at hm
      clear hg hA
      by_cases h5 : (l[k].c.length : Int) ≤ 100
      · have HF : Hid ((l.take (k + 1)).all (fun x => decide (x.c.length ≤ 100)) = true) := by
          unfold Hid
          rw [List.take_succ_eq_append_getElem h1, List.all_append, HN.out]
          simp; omega
        have h6 : ¬ (100 : Int) < l[k].c.length := by omega
        generalize l[k] = x at *
        go_wp2
        go_round
        case rel => exact ⟨k + 1, by omega, by omega, by go_num, HF⟩
        case measure => simp [intOf]; omega
      · have HF : Hid (lightA l = false) := by
          unfold Hid lightA
          rw [List.all_eq_false]
          refine ⟨l[k], ?_, by simp; omega⟩
          rw [List.mem_iff_getElem?]
          exact ⟨k, by rw [List.getElem?_take, if_pos h2]; exact List.getElem?_eq_getElem h1⟩
        have h6 : (100 : Int) < l[k].c.length := by omega
        generalize l[k] = x at *
        go_wp2
        go_ret
        exact ⟨ret_bool HF.out.symm, rfl⟩
    · have HF : Hid (lightA l = true) := by
        unfold Hid lightA
        rw [← HN.out]
        rcases Nat.lt_or_ge k 40 with q | q
        · rw [List.take_of_length_le (by omega), List.take_of_length_le (by omega)]
        · obtain rfl : k = 40 := by omega
          rfl
      clear hg
      by_cases h1 : k < l.length
      · have h1' : (k : Int) < l.length := by omega
        have h2' : ¬ (k : Int) < 40 := by omega
        have d1 : decide (k < l.length) = true := decide_eq_true h1
        have d2 : decide (k < 40) = false := decide_eq_false (by omega)
        clear hlt
        go_wp2
        go_ret
        exact ⟨ret_bool HF.out.symm, rfl⟩
      · have h1' : ¬ (k : Int) < l.length := by omega
        have d1 : decide (k < l.length) = false := decide_eq_false h1
        clear hlt
        go_wp2
        go_ret
        exact ⟨ret_bool HF.out.symm, rfl⟩

section
variable {ρ : Nat → Rl} {N : Nat} {w : World} {B V : Nat} {s : PS} {css : List (List Int)} {gs : List Bool} {a2 a3 a4 : Option Addr} {c2 c3 c4 : Nat}

/-- What a decision leaves. -/
def ActD1 (ρ : Nat → Rl) (N : Nat) (w : World) (B V : Nat) (t : PS) (css : List (List Int)) (gs : List Bool) (a2 a3 : Option Addr) (c2 c3 : Nat) (e : Ending) (w' : World) : Prop := ∃ ρ' a4 c4, e = .returned (.tuple #[.agg #[.pointer (some ⟨B, 0, none⟩), .int .i64 V, .slice a2 css.length c2, .slice a3 gs.length c3, .slice a4 t.dec.length c4], .bool true]) ∧ LW ρ' N w' B V t css gs a2 a3 a4 c2 c3 c4 ∧ Ev ρ w ρ' w'

theorem act0_lw (h : LW ρ N w B V s css gs a2 a3 a4 c2 c3 c4) (ac : Option Addr) (nc cc : Nat) (l : Int) (ho : openB V s.trail l = true) :
    Calls Try.prog 12 #[.agg #[.pointer (some ⟨B, 0, none⟩), .int .i64 V, .slice a2 css.length c2, .slice a3 gs.length c3, .slice a4 s.dec.length c4], .agg #[.int .i64 0, .int .i64 l, .slice ac nc cc]] w fun e w' => ActD1 ρ N w B V (s.decide l) css gs a2 a3 c2 c3 e w' := by
  obtain ⟨H, hR⟩ := h.rep
  obtain ⟨vs, hg⟩ := h.g
  have hdl : s.dec.length = s.lvs.length := by simp [PS.dec]
  have hlv := lvs_len h.inv.tr
  have htl := trail_len h.inv.tr
  have hVs := h.inv.sz.vars
  refine (act0_yes hR h.inv (fun c hc => by have := h.lits c hc; omega) V h.vars a2 a3 a4 ac css.length c2 gs.length c3 s.dec.length c4 nc cc s.dec h.d (by omega) l ho).mono ?_
  rintro e w' ⟨a', c', rfl, ρ', H', hR', hE, hD⟩
  obtain ⟨hl, h1, h2⟩ := openB_lt ho
  have hdd := dec_decide h.inv l
  have hlen : (s.decide l).dec.length = s.dec.length + 1 := by rw [hdd]; simp
  refine ⟨ρ', a', c', by rw [hlen], ⟨⟨H', hR'⟩, decide_inv h.inv (by rw [h.vars]; exact hl) h1 h2, h.cnt.decide l, h.vars, h.kys.same rfl, h.lits, ⟨vs, hg.ev hE⟩, h.n2, h.b.ev hE, ?_⟩, hE⟩
  rw [hlen, hdd]
  exact hD

theorem act_any (h : LW ρ N w B V s css gs a2 a3 a4 c2 c3 c4) (hN : N ≤ w.heap.size) (hV : V ≤ 1000) (hn : css.length ≤ 1000) (ac : Option Addr) (cl : List Int) (cc : Nat) (d l : Int) (hr : RowO ρ N w ac cl) (hcl : cl.length ≤ maxLen) (hcc : ac = none → cc = 0) :
    Calls Try.prog 12 #[.agg #[.pointer (some ⟨B, 0, none⟩), .int .i64 V, .slice a2 css.length c2, .slice a3 gs.length c3, .slice a4 s.dec.length c4], .agg #[.int .i64 d, .int .i64 l, .slice ac cl.length cc]] w fun e w' => ActR ρ N w B V (css.length + 1) e w' := by
  by_cases h0 : d = 0
  · subst h0
    cases ho : openB V s.trail l with
    | false => exact act0_no h hN ac cl.length cc l ho
    | true =>
      refine (act0_lw h ac cl.length cc l ho).mono ?_
      rintro e w' ⟨ρ', a', c', rfl, hL, hE⟩
      exact ⟨ρ', s.decide l, css, gs, a2, a3, a', c2, c3, c', rfl, hL, hE, Nat.le_succ _⟩
  · by_cases h1 : d = 1
    · subst h1; exact act1_any h hN hV hn ac cl.length cc l
    · by_cases h2 : d = 2
      · subst h2; exact act2_any h hN ac cl.length cc l
      · by_cases h3 : d = 3
        · subst h3; exact act3_any h hN ac cl cc l hr hcl hcc hn
        · by_cases h4 : d = 4
          · subst h4; exact act4_any h hN ac cl.length cc l
          · exact act_none h hN ac cl.length cc d l ⟨h0, h1, h2, h3, h4⟩
end
end Go.Proofs.Ytlmbgaconjcaiaa
