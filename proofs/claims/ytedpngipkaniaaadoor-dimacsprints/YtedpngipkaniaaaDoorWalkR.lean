/- Contracts: where a line ends; a line's next word (a function that knows the line). -/
import Derived.Test.YtedpngipkaniaaaDoorWalkN
import Derived.Test.YtedpngipkaniaaaDoorPlainW
import Derived.Test.YtedpngipkaniaaaDoorWalkD
import Derived.Lib.BytesEntry
import Derived.OwnWalk
import Derived.Laws.IdiomStrings
import Derived.Laws.BytesArg
set_option linter.unusedVariables false
set_option linter.unusedSimpArgs false
namespace Go.Proofs.YtedpngipkaniaaaDoor
open Go.RowKit

/-- A slice's bytes as they lie in memory, in a block below B. -/
def Txt (B : Nat) (w : World) (a : Option Addr) (t : List UInt8) : Prop :=
  ∀ i (h : i < t.length), ∃ b off, a = some ⟨b, off, none⟩ ∧ b < B ∧ w.cell? ⟨b, off + i, none⟩ = some (.int .u8 (t[i].toNat : Int))

theorem Txt.mono {B B' : Nat} {w : World} {a : Option Addr} {t : List UInt8} (h : Txt B w a t) (hb : B ≤ B') : Txt B' w a t := by
  intro i hi
  obtain ⟨b, off, e, hlt, hc⟩ := h i hi
  exact ⟨b, off, e, Nat.lt_of_lt_of_le hlt hb, hc⟩

theorem Txt.grown {B N : Nat} {w w' : World} {a : Option Addr} {t : List UInt8} (h : Txt B w a t) (hg : w.grownBy w' (some N)) (hB : B ≤ w.heap.size) (hN : B ≤ N) : Txt B w' a t := by
  intro i hi
  obtain ⟨b, off, e, hlt, hc⟩ := h i hi
  refine ⟨b, off, e, hlt, ?_⟩
  rw [World.cell?_of_block (w := w) (w' := w') (a := ⟨b, off + i, none⟩) (hg.block b (by omega) (by simp; omega))]
  exact hc

theorem Txt.below {B : Nat} {w w' : World} {a : Option Addr} {t : List UInt8} (h : Txt B w a t) (hb : Below B w w') : Txt B w' a t := by
  intro i hi
  obtain ⟨b, off, e, hlt, hc⟩ := h i hi
  exact ⟨b, off, e, hlt, (hb.cell (p := ⟨b, off + i, none⟩) hlt).trans hc⟩

set_option maxHeartbeats 400000 in
theorem isBlank_any (c : UInt8) (w : World) :
    Calls Tryd.prog 36 #[.int .u8 (c.toNat : Int)] w fun e w' => e = .returned (.bool (blB c)) ∧ w' = w := by
  have e : ∀ k : Nat, k < 256 → ((c.toNat : Int) = k ↔ c = k.toUInt8) := by
    intro k hk
    constructor
    · intro h; apply UInt8.toNat_inj.1; simp; omega
    · intro h; subst h; simp; omega
  have h32 := e 32 (by omega)
  have h9 := e 9 (by omega)
  have HB : Hid (blB c = (decide ((c.toNat : Int) = 32) || decide ((c.toNat : Int) = 9))) := by
    show _ = _
    unfold blB
    rw [Bool.eq_iff_iff]
    simp only [Bool.or_eq_true, beq_iff_eq, decide_eq_true_eq]
    rw [show ((c.toNat : Int) = 32) = (c = 32) from propext h32, show ((c.toNat : Int) = 9) = (c = 9) from propext h9]
  clear e h32 h9
  go_enter Tryd.func36, Tryd.ntmps36
  go_wp2
  all_goals
    go_ret
    exact ⟨ret_bool (by rw [HB.out, Bool.eq_iff_iff]; simp [*]), rfl⟩

/-- The boxes of a function that knows a line: the text, where it is, and where the line ends. -/
structure Cut (B g : Nat) (w : World) (a : Option Addr) (cap : Nat) (t : List UInt8) (p q : Nat) : Prop where
  text : w.heap[g]? = some (.cells #[.slice a t.length cap] 27 (0, 0))
  here : w.heap[g + 1]? = some (.cells #[.int .i64 (p : Int)] 3 (0, 0))
  stop : w.heap[g + 2]? = some (.cells #[.int .i64 (q : Int)] 3 (0, 0))
  txt : Txt B w a t
  low : B ≤ g
  le : p ≤ q
  len : q ≤ t.length
  most : t.length ≤ 4194304
  capy : t.length ≤ cap

theorem one_cell {w : World} {G : Nat} {p : Value} {t : TypeId} (h : w.heap[G]? = some (.cells #[p] t (0, 0))) : w.cell? ⟨G, 0, Option.none⟩ = some p ∧ w.frozen? ⟨G, 0, Option.none⟩ = false := by
  refine ⟨by simp [World.cell?, h], by simp [World.frozen?, h]⟩

theorem set_one {w : World} {G : Nat} {p x : Value} {t : TypeId} (h : w.heap[G]? = some (.cells #[p] t (0, 0))) : (w.setCell ⟨G, 0, Option.none⟩ x).heap[G]? = some (.cells #[x] t (0, 0)) := by
  have hlt := lt_of_block h
  have h' : w.heap[G] = .cells #[p] t (0, 0) := by simpa [Array.getElem?_eq_getElem hlt] using h
  show (w.heap.modify G _)[G]? = _
  rw [Array.getElem?_eq_getElem (by simpa using hlt), Array.getElem_modify_self, h']
  rfl

theorem grown_set {w x : World} {G : Nat} (h : w.grownBy x (some G)) (v : Value) : w.grownBy (x.setCell ⟨G, 0, none⟩ v) (some G) :=
  ⟨h.os, h.tape, h.output, by simpa [World.setCell] using h.size, fun k hk hn => (Below.heap_setCell _ _ _ _ (fun e => hn (by rw [e]))).trans (h.block k hk hn)⟩

theorem Cut.drewN {B g : Nat} {w : World} {a : Option Addr} {cap : Nat} {t : List UInt8} {p q : Nat} (h : Cut B g w a cap t p q) (n : Nat) : Cut B g (w.drewN n) a cap t p q :=
  ⟨h.text, h.here, h.stop, h.txt, h.low, h.le, h.len, h.most, h.capy⟩
theorem grown_drewN {w x : World} {r : Option Nat} (h : w.grownBy x r) (n : Nat) : w.grownBy (x.drewN n) r := ⟨h.os, h.tape, h.output, h.size, h.block⟩

theorem Cut.step {B g : Nat} {w x : World} {a : Option Addr} {cap : Nat} {t : List UInt8} {p q p' : Nat} (h : Cut B g w a cap t p q) (hg : w.grownBy x (some (g + 1))) (hx : x.heap[g + 1]? = some (.cells #[.int .i64 (p' : Int)] 3 (0, 0))) (hp : p' ≤ q) : Cut B g x a cap t p' q := by
  have h0 := lt_of_block h.text
  have h2 := lt_of_block h.stop
  refine ⟨?_, hx, ?_, h.txt.grown hg (by have := h.low; omega) (by have := h.low; omega), h.low, hp, h.len, h.most, h.capy⟩
  · rw [hg.block g h0 (by simp)]; exact h.text
  · rw [hg.block (g + 2) h2 (by simp)]; exact h.stop

theorem Txt.at {B : Nat} {w : World} {b off : Nat} {t : List UInt8} (h : Txt B w (some ⟨b, off, none⟩) t) {i : Nat} {c : UInt8} (hc : t[i]? = some c) : w.cell? ⟨b, off + i, none⟩ = some (.int .u8 (c.toNat : Int)) := by
  obtain ⟨hi, rfl⟩ := List.getElem?_eq_some_iff.1 hc
  obtain ⟨b', off', e, _, hcc⟩ := h i hi
  simp at e
  obtain ⟨rfl, rfl⟩ := e
  exact hcc

/-- Where the line's rest begins, by the box. -/
def hereN (g : Nat) (w : World) : Nat := match w.cell? ⟨g + 1, 0, none⟩ with
  | some (.int _ n) => n.toNat
  | _ => 0

theorem Cut.hereN {B g : Nat} {w : World} {a : Option Addr} {cap : Nat} {t : List UInt8} {p q : Nat} (h : Cut B g w a cap t p q) : hereN g w = p := by
  unfold YtedpngipkaniaaaDoor.hereN
  rw [(one_cell h.here).1]; simp

theorem Txt.cells {B : Nat} {w : World} {a : Option Addr} {t : List UInt8} (h : Txt B w a t) (h0 : 0 < t.length) : ∃ b off, a = some ⟨b, off, none⟩ ∧ b < B ∧ ∀ i (h : i < t.length), w.cell? ⟨b, off + i, none⟩ = some (.int .u8 (t[i].toNat : Int)) := by
  obtain ⟨b, off, rfl, hb, _⟩ := h 0 h0
  refine ⟨b, off, rfl, hb, fun i hi => ?_⟩
  obtain ⟨b', off', e, _, hc⟩ := h i hi
  simp at e
  obtain ⟨rfl, rfl⟩ := e
  exact hc

theorem ret_word {a a' : ByteArray} {i i' : Int} {b b' : Bool} (h1 : a = a') (h2 : i = i') (h3 : b = b') : Ending.returned (.tuple #[.string a, .int .i64 i, .bool b]) = .returned (.tuple #[.string a', .int .i64 i', .bool b']) := by rw [h1, h2, h3]

theorem cut_text {B : Nat} {w : World} {b off at0 n cp : Nat} {t v : List UInt8} (h : Txt B w (some ⟨b, off, none⟩) t) (hv : ∀ k (h : k < v.length), ∃ c, t[at0 + k]? = some c ∧ v[k] = c ∧ blB c = false) :
    (convert 27 9 (.slice (some ⟨b, off + at0, none⟩) v.length cp)).run Tryd.prog (w.drewN n) = .ok (.string (str v)) (w.drewN n) := by
  refine run_convert_bytes_back (P := Tryd.prog) (w.drewN n) 27 9 5 ⟨b, off + at0, none⟩ cp v Tryd.underlying27 Tryd.underlying5 Tryd.underlying9 ?_
  intro j hj
  obtain ⟨c, h1, h2, _⟩ := hv j hj
  rw [Addr.add_lit, h2, Nat.add_assoc]
  exact h.at h1

theorem cut_none (w : World) (n : Nat) (x : Option Addr) (cp : Nat) : (convert 27 9 (.slice x 0 cp)).run Tryd.prog (w.drewN n) = .ok (.string (str [])) (w.drewN n) := by
  cases x with
  | none => exact run_convert_bytes_nil (P := Tryd.prog) (w.drewN n) 27 5 Tryd.underlying27 Tryd.underlying5 0 cp 9 Tryd.underlying9
  | some a => exact run_convert_bytes_back (P := Tryd.prog) (w.drewN n) 27 9 5 a cp [] Tryd.underlying27 Tryd.underlying5 Tryd.underlying9 (fun j hj => by simp at hj)

set_option maxHeartbeats 4000000 in
theorem next_some (B g : Nat) (w : World) (b off : Nat) (cap : Nat) (t : List UInt8) (p q : Nat) (hC : Cut B g w (some ⟨b, off, none⟩) cap t p q) (pre v post : List UInt8) (hline : (t.drop p).take (q - p) = pre ++ (v ++ post))
    (hpre : pre.all blB = true) (hv : v.all (fun c => !blB c) = true) (hpost : post = [] ∨ ∃ c r, post = c :: r ∧ blB c = true) (hnil : v = [] → post = []) :
    Calls Tryd.prog 35 #[.pointer (some ⟨g + 1, 0, none⟩), .pointer (some ⟨g + 2, 0, none⟩), .pointer (some ⟨g, 0, none⟩)] w fun e w' =>
      e = .returned (.tuple #[.string (str v), .int .i64 ((p + pre.length : Nat) : Int), .bool (decide (0 < v.length))]) ∧ w.grownBy w' (some (g + 1)) ∧ Cut B g w' (some ⟨b, off, none⟩) cap t (p + pre.length + v.length) q := by
  have hlen : pre.length + v.length + post.length = q - p := by
    have := congrArg List.length hline
    have h1 := hC.len
    simp at this; omega
  have hat : ∀ i (h : i < pre.length + v.length + post.length), t[p + i]? = (pre ++ (v ++ post))[i]? := by
    intro i h
    rw [← hline, List.getElem?_take_of_lt (by omega), List.getElem?_drop]
  have hpq := hC.le
  have hql := hC.len
  have hmx := hC.most
  have hcy := hC.capy
  have HPRE : Hid (∀ k (h : k < pre.length), ∃ c, t[p + k]? = some c ∧ blB c = true) := by
    intro k h
    have := hat k (by omega)
    rw [List.getElem?_append_left h, List.getElem?_eq_getElem h] at this
    exact ⟨_, this, List.all_eq_true.1 hpre _ (List.getElem_mem h)⟩
  have HV : Hid (∀ k (h : k < v.length), ∃ c, t[p + pre.length + k]? = some c ∧ v[k] = c ∧ blB c = false) := by
    intro k h
    have := hat (pre.length + k) (by omega)
    rw [List.getElem?_append_right (by omega), show pre.length + k - pre.length = k by omega, List.getElem?_append_left h, List.getElem?_eq_getElem h, ← Nat.add_assoc] at this
    exact ⟨_, this, rfl, by have := List.all_eq_true.1 hv _ (List.getElem_mem h); simpa using this⟩
  have HPOST : Hid (p + pre.length + v.length < q → 0 < v.length ∧ ∃ c, t[p + pre.length + v.length]? = some c ∧ blB c = true) := by
    show _ → _
    intro h
    rcases hpost with e | ⟨c, r, e, hb⟩
    · subst e; simp at hlen; omega
    · refine ⟨?_, c, ?_, hb⟩
      · rcases Nat.eq_zero_or_pos v.length with h0 | h0
        · have := hnil (List.length_eq_zero_iff.1 h0); subst this; simp at e
        · exact h0
      · have := hat (pre.length + v.length) (by omega)
        rw [List.getElem?_append_right (by omega), List.getElem?_append_right (by omega), e, show pre.length + v.length - pre.length - v.length = 0 by omega, ← Nat.add_assoc] at this
        exact this
  have HC := hide hC
  have hqe : p + pre.length + v.length ≤ q := by omega
  clear hat hline hC hpre hv hpost hnil hlen
  generalize hP : pre.length = P at *
  clear hP
  go_enter Tryd.func35, Tryd.ntmps35
  go_wp2
  go_loopw [] (fun wr => ∃ k : Nat, k ≤ P ∧ w.grownBy wr (some (g + 1)) ∧ Cut B g wr (some ⟨b, off, none⟩) cap t (p + k) q) (fun wr => q - hereN g wr)
  case atStart => exact ⟨0, Nat.zero_le _, World.grownBy.refl _ _, HC.out⟩
  case round =>
    obtain ⟨k, hk, hgr, hCk⟩ := hrel
    have HG := hide hgr
    have HCK := hide hCk
    obtain ⟨f0, f1⟩ := one_cell hCk.text
    obtain ⟨f2, f3⟩ := one_cell hCk.here
    obtain ⟨f4, f5⟩ := one_cell hCk.stop
    clear hgr
    by_cases hlt : k < P
    · obtain ⟨c, hc1, hc2⟩ := HPRE.out k hlt
      have hc := hCk.txt.at hc1
      have CB := isBlank_any c wr
      rw [hc2] at CB
      replace CB := hide CB
      have hpq' : ((p + k : Nat) : Int) < q := by omega
      clear hCk hc1 hc2
      go_wp2_with (go_at_call 36; refine (unhide CB).mono ?_; rintro e w0 ⟨rfl, hw0⟩; subst w0)
      have hset := set_one (x := .int .i64 ((p + k + 1 : Nat) : Int)) HCK.out.here
      have HST := hide (HCK.out.step (grown_set (World.grownBy.refl wr _) (.int .i64 ((p + k + 1 : Nat) : Int))) hset (by omega))
      have HGS := hide (grown_set HG.out (.int .i64 ((p + k + 1 : Nat) : Int)))
      have hnum : ((p + k + 1 : Nat) : Int) = (p : Int) + k + 1 := by omega
      rw [hnum] at HST HGS
      have HH := hide HCK.out.hereN
      have HH' := hide HST.out.hereN
      clear hset hnum
      go_roundw
      case rel => exact ⟨k + 1, by omega, HGS.out, HST.out⟩
      case measure => rw [HH.out, HH'.out]; omega
    · have hk0 : k = P := by omega
      subst hk0
      clear hk hlt
      by_cases hv0 : 0 < v.length
      · obtain ⟨c, hc1, _, hc2⟩ := HV.out 0 hv0
        rw [Nat.add_zero] at hc1
        have hc := hCk.txt.at hc1
        have CB := isBlank_any c wr
        rw [hc2] at CB
        replace CB := hide CB
        have hpq' : ((p + k : Nat) : Int) < q := by omega
        clear hCk hc1 hc2
        go_wp2_with (go_at_call 36; refine (unhide CB).mono ?_; rintro e w0 ⟨rfl, hw0⟩; subst w0)
        clear f0 f1 f2 f3 f4 f5 hc CB
        go_loopw [] (fun wr2 => ∃ j : Nat, j ≤ v.length ∧ w.grownBy wr2 (some (g + 1)) ∧ Cut B g wr2 (some ⟨b, off, none⟩) cap t (p + k + j) q) (fun wr2 => q - hereN g wr2)
        case atStart => exact ⟨0, Nat.zero_le _, HG.out, HCK.out⟩
        case round =>
          clear HG HCK
          obtain ⟨j, hj, hgr, hCk⟩ := hrel
          have HG := hide hgr
          have HCK := hide hCk
          obtain ⟨f0, f1⟩ := one_cell hCk.text
          obtain ⟨f2, f3⟩ := one_cell hCk.here
          obtain ⟨f4, f5⟩ := one_cell hCk.stop
          clear hgr
          by_cases hlt : j < v.length
          · obtain ⟨c, hc1, _, hc2⟩ := HV.out j hlt
            have hc := hCk.txt.at hc1
            have CB := isBlank_any c wr
            rw [hc2] at CB
            replace CB := hide CB
            have hpq' : ((p + k + j : Nat) : Int) < q := by omega
            clear hCk hc1 hc2
            go_wp2_with (go_at_call 36; refine (unhide CB).mono ?_; rintro e w0 ⟨rfl, hw0⟩; subst w0)
            have hset := set_one (x := .int .i64 ((p + k + j + 1 : Nat) : Int)) HCK.out.here
            have HST := hide (HCK.out.step (grown_set (World.grownBy.refl wr _) (.int .i64 ((p + k + j + 1 : Nat) : Int))) hset (by omega))
            have HGS := hide (grown_set HG.out (.int .i64 ((p + k + j + 1 : Nat) : Int)))
            have hnum : ((p + k + j + 1 : Nat) : Int) = (p : Int) + k + j + 1 := by omega
            rw [hnum] at HST HGS
            have HH := hide HCK.out.hereN
            have HH' := hide HST.out.hereN
            clear hset hnum
            go_roundw
            case rel => exact ⟨j + 1, by omega, HGS.out, HST.out⟩
            case measure => rw [HH.out, HH'.out]; omega
          · have hj0 : j = v.length := by omega
            subst hj0
            clear hj hlt
            by_cases hq : p + k + v.length < q
            · obtain ⟨_, c, hc1, hc2⟩ := HPOST.out hq
              have hc := hCk.txt.at hc1
              have CB := isBlank_any c wr
              rw [hc2] at CB
              replace CB := hide CB
              have hpq' : ((p + k + v.length : Nat) : Int) < q := by omega
              clear hc1 hc2
              go_wp2_with (go_at_call 36; refine (unhide CB).mono ?_; rintro e w0 ⟨rfl, hw0⟩; subst w0)
              have hcv := fun n cp => cut_text (n := n) (cp := cp) HCK.out.txt HV.out
              go_quiet (fail)
              go_wp2
              go_ret3
              exact ⟨ret_word rfl (by omega) (by rw [decide_eq_true hv0]; show decide _ = _; rw [decide_eq_true_iff]; omega), grown_drewN HG.out _, HCK.out.drewN _⟩
            · have hq1 : p + k + v.length = q := by omega
              have hpq' : ¬ ((p + k + v.length : Nat) : Int) < q := by omega
              have hcv := fun n cp => cut_text (n := n) (cp := cp) HCK.out.txt HV.out
              clear hq1 hq
              go_wp2
              go_quiet (fail)
              go_wp2
              go_ret3
              exact ⟨ret_word rfl (by omega) (by rw [decide_eq_true hv0]; show decide _ = _; rw [decide_eq_true_iff]; omega), grown_drewN HG.out _, HCK.out.drewN _⟩
      · have hv' : v = [] := by simpa using hv0
        subst hv'
        have hq1 : ¬ p + k < q := fun h => by have := (HPOST.out (by simpa using h)).1; simp at this
        have hpq' : ¬ ((p + k : Nat) : Int) < q := by omega
        clear hq1 HPOST HPRE hv0
        go_wp2
        clear f0 f1 f2 f3 f4 f5
        go_loopw [] (fun wr2 => w.grownBy wr2 (some (g + 1)) ∧ Cut B g wr2 (some ⟨b, off, none⟩) cap t (p + k) q) (fun wr2 => q - hereN g wr2)
        case atStart => exact ⟨HG.out, HCK.out⟩
        case round =>
          clear HG HCK hCk
          obtain ⟨hgr, hCk⟩ := hrel
          have HG := hide hgr
          have HCK := hide hCk
          obtain ⟨f0, f1⟩ := one_cell hCk.text
          obtain ⟨f2, f3⟩ := one_cell hCk.here
          obtain ⟨f4, f5⟩ := one_cell hCk.stop
          have hcv := cut_none wr
          clear hgr hCk HV
          go_wp2
          by_cases hcap : p + k = cap
          · have hcap' : (p : Int) + k = cap := by omega
            go_quiet (fail)
            go_wp2
            go_ret3
            exact ⟨ret_word rfl (by omega) (by first | rfl | simp), grown_drewN HG.out _, HCK.out.drewN _⟩
          · have hcap' : p + k < cap := by omega
            go_quiet (fail)
            go_wp2
            go_ret3
            exact ⟨ret_word rfl (by omega) (by first | rfl | simp), grown_drewN HG.out _, HCK.out.drewN _⟩

end Go.Proofs.YtedpngipkaniaaaDoor
