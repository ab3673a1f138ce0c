/- Contracts: which number a word is (the program's own way, and the document's), and a number's digits. -/
import Derived.Test.YtgklollpajhmlaaWalkA
import Derived.Test.YtgklollpajhmlaaPlainN
import Derived.Lib.Strings
import Derived.Laws.Strings3
import Derived.Lib.Walk
set_option linter.unusedVariables false
set_option linter.unusedSimpArgs false
namespace Go.Proofs.Ytgklollpajhmlaa
open Go.RowKit

/-- A list of bytes, as a string. -/
def str (l : List UInt8) : ByteArray := ⟨l.toArray⟩

theorem str_toList (l : List UInt8) : (str l).toList = l := by rw [Lib.toList_data]; rfl
theorem str_size (l : List UInt8) : (str l).size = l.length := by simp [str, ByteArray.size]
theorem str_eq (s : ByteArray) : str s.data.toList = s := by cases s; simp [str]
theorem str_inj {a b : List UInt8} (h : str a = str b) : a = b := by rw [← str_toList a, h, str_toList]
theorem str_get (l : List UInt8) (k : Nat) (h : k < (str l).size) : (str l)[k] = l[k]'(by rw [str_size] at h; exact h) := rfl
theorem str_extract (l : List UInt8) (i j : Nat) : (str l).extract i j = str ((l.drop i).take (j - i)) := by
  apply ByteArray.ext
  rw [ByteArray.data_extract]
  simp [str]
theorem str_append (a b : List UInt8) : str a ++ str b = str (a ++ b) := by
  apply ByteArray.ext
  simp [str]
theorem ret_string {a b : ByteArray} (h : a = b) : Ending.returned (.string a) = .returned (.string b) := by rw [h]
theorem ret_num {a a' : Int} {b b' : Bool} (h : a = a') (g : b = b') : Ending.returned (.tuple #[.int .i64 a, .bool b]) = .returned (.tuple #[.int .i64 a', .bool b']) := by rw [h, g]

theorem one_head {l : List UInt8} : ((str l).extract 0 1).toList == [45] ↔ l.head? = some 45 := by
  rw [str_extract, str_toList]
  cases l <;> simp

set_option maxHeartbeats 1000000 in
theorem trim_any (l : List UInt8) (w : World) (hl : l.length ≤ maxLen) :
    Calls Try.prog 43 #[.string (str l), .string ⟨#[45]⟩] w fun e w' => e = .returned (.string (str (bare l))) ∧ w' = w := by
  have hs := str_size l
  unfold maxLen at hl
  go_enter Try.func43, Try.ntmps43
  go_wp2
  · go_ret
    refine ⟨ret_string ?_, rfl⟩
    rw [str_extract]
    have : l.head? = some 45 := one_head.1 ‹_›
    unfold bare
    rw [if_pos this]
    congr 1
    rw [List.take_of_length_le (by simp)]
    simp
  · go_ret
    refine ⟨ret_string ?_, rfl⟩
    have : ¬ l.head? = some 45 := fun e => by have h1 := one_head.2 e; simp_all
    unfold bare
    rw [if_neg this]
  · go_ret
    refine ⟨ret_string ?_, rfl⟩
    have : l = [] := by
      cases l with
      | nil => rfl
      | cons c l => exfalso; simp only [List.length_cons] at *; omega
    subst this
    rfl

theorem take_snocU (l : List UInt8) (k : Nat) (h : k < l.length) : l.take (k + 1) = l.take k ++ [l[k]] := List.take_succ_eq_append_getElem h
theorem allU_snoc (l : List UInt8) (k : Nat) (h : k < l.length) (hk : (l.take k).all digB = true) (hp : digB l[k] = true) : (l.take (k + 1)).all digB = true := by
  rw [take_snocU l k h, List.all_append, hk]; simp [hp]
theorem allU_no (l : List UInt8) (k : Nat) (h : k < l.length) (hp : digB l[k] = false) : l.all digB = false := by
  rw [List.all_eq_false]; exact ⟨l[k], List.getElem_mem h, by simp [hp]⟩
theorem decV_bd {l : List UInt8} (h : l.all digB = true) (hl : l.length ≤ 11) : decV l < 100000000000 := by
  have := decV_le h
  have h2 : 10 ^ l.length ≤ 10 ^ 11 := Nat.pow_le_pow_right (by omega) hl
  omega
theorem bare_len (l : List UInt8) : (bare l).length ≤ l.length := by unfold bare; split <;> simp
theorem u8_sub {c : UInt8} (h : 48 ≤ (c.toNat : Int)) : ((c.toNat : Int) - 48) % 256 = ((c.toNat - 48 : Nat) : Int) := by
  have := c.toNat_lt; omega

theorem head_48 (d : List UInt8) (h : 0 < d.length) : ∀ g, (((str d)[0]'g).toNat : Int) = 48 ↔ d.head? = some 48 := by
  intro g
  rw [str_get]
  cases d with
  | nil => simp at h
  | cons c d =>
    simp
    constructor
    · intro e; exact UInt8.toNat_inj.1 (by simp; omega)
    · intro e; subst e; rfl

theorem num_parts {l d : List UInt8} (hd : bare l = d) (h1 : 1 ≤ d.length) (h2 : d.length ≤ 10) :
    (d.head? = some 48 ∧ 1 < l.length → numB l = false) ∧ (¬ (d.head? = some 48 ∧ 1 < l.length) → (d.all digB = false → numB l = false) ∧ (d.all digB = true → numB l = true ∧ numV l = if d.length < l.length then -(decV d : Int) else decV d)) := by
  unfold numV numB
  rw [hd]
  refine ⟨fun h => ?_, fun h => ⟨fun g => ?_, fun g => ?_⟩⟩
  · rw [decide_eq_false (fun k => k.2.2 h)]; rfl
  · rw [g]; simp
  · rw [g, decide_eq_true ⟨h1, h2, h⟩]; simp

set_option maxHeartbeats 2000000 in
theorem number_any (l : List UInt8) (w : World) (hl : l.length ≤ maxLen) :
    Calls Try.prog 42 #[.string (str l)] w fun e w' => e = .returned (.tuple #[.int .i64 (numV l), .bool (numB l)]) ∧ w' = w := by
  have C := hide (trim_any l w hl)
  have hs := str_size l
  have hd := str_size (bare l)
  have hbl := bare_len l
  unfold maxLen at hl
  generalize hdd : bare l = d at *
  by_cases h1 : 1 ≤ (d.length : Int)
  case neg =>
    have HF : Hid (numB l = false) := by show _ = _; unfold numB; rw [hdd]; simp; omega
    have h1' : (d.length : Int) < 1 := by omega
    clear h1
    go_enter Try.func42, Try.ntmps42
    go_wp2_with (go_at_call 43; refine (unhide C).mono ?_; rintro e w' ⟨rfl, rfl⟩)
    go_ret2
    exact ⟨ret_num (numV_no HF.out).symm HF.out.symm, rfl⟩
  by_cases h2 : (d.length : Int) ≤ 10
  case neg =>
    have HF : Hid (numB l = false) := by show _ = _; unfold numB; rw [hdd]; simp; omega
    have h2' : 10 < (d.length : Int) := by omega
    clear h2
    go_enter Try.func42, Try.ntmps42
    go_wp2_with (go_at_call 43; refine (unhide C).mono ?_; rintro e w' ⟨rfl, rfl⟩)
    go_ret2
    exact ⟨ret_num (numV_no HF.out).symm HF.out.symm, rfl⟩
  have hg0 : 0 < d.length := by omega
  have HH := hide (head_48 d hg0)
  have HN := hide (num_parts hdd (by omega) (by omega))
  go_enter Try.func42, Try.ntmps42
  go_wp2_with (go_at_call 43; refine (unhide C).mono ?_; rintro e w' ⟨rfl, rfl⟩)
  · have HF : Hid (numB l = false) := (HN.out).1 ⟨(HH.out _).1 ‹_›, by omega⟩
    go_ret2
    exact ⟨ret_num (numV_no HF.out).symm HF.out.symm, rfl⟩
  all_goals
    have HO : Hid (¬ (d.head? = some 48 ∧ 1 < l.length)) := by
      show ¬ _
      rintro ⟨g1, g2⟩
      first
        | omega
        | exact absurd ((HH.out (by rw [hd]; exact hg0)).2 g1) ‹_›
    have HP := hide (HN.out.2 HO.out)
    clear HH HN HO
    go_loop [5, 27] (fun n i => ∃ k : Nat, k ≤ d.length ∧ i = .int .i64 k ∧ n = .int .i64 (decV (d.take k)) ∧ (d.take k).all digB = true) (fun _ i => d.length - (intOf i).toNat)
    case atStart => exact ⟨0, Nat.zero_le _, rfl, rfl, rfl⟩
    case round =>
      obtain ⟨k, hk, rfl, rfl, hall⟩ := hrel
      have hbd := decV_bd hall (by simp; omega)
      have HA := hide hall
      clear hall
      by_cases hlt : k < d.length
      · have HG : Hid ((str d)[k]'(by rw [hd]; exact hlt) = d[k]) := str_get d k (by rw [hd]; exact hlt)
        have HSN := hide (take_snocU d k hlt)
        have HDS := hide (decV_snoc (d.take k) d[k])
        by_cases hc : digB d[k] = true
        · have hc1 : 48 ≤ (((str d)[k]'(by rw [hd]; exact hlt)).toNat : Int) := by rw [HG.out]; unfold digB at hc; simp at hc; omega
          have hc2 : (((str d)[k]'(by rw [hd]; exact hlt)).toNat : Int) ≤ 57 := by rw [HG.out]; unfold digB at hc; simp at hc; omega
          have HAS := hide (allU_snoc d k hlt HA.out hc)
          go_wp2
          go_round
          case rel => exact ⟨k + 1, by omega, by go_num, by rw [HSN.out, HDS.out, HG.out]; unfold digB at hc; simp only [decide_eq_true_eq] at hc; go_num, HAS.out⟩
          case measure => simp [intOf]; omega
        · have HF : Hid (numB l = false) := HP.out.1 (allU_no d k hlt (by simpa using hc))
          have hc1 : ¬ (48 ≤ (((str d)[k]'(by rw [hd]; exact hlt)).toNat : Int) ∧ (((str d)[k]'(by rw [hd]; exact hlt)).toNat : Int) ≤ 57) := by rw [HG.out]; unfold digB at hc; simp at hc; omega
          clear hc
          go_wp2
          all_goals
            go_ret2
            exact ⟨ret_num (numV_no HF.out).symm HF.out.symm, rfl⟩
      · have HT : Hid (d.take k = d) := List.take_of_length_le (by omega)
        have HY := HP.out.2 (by have h := HA.out; rw [HT.out] at h; exact h)
        replace HY := hide HY
        go_wp2
        all_goals
          go_ret2
          refine ⟨ret_num ?_ HY.out.1.symm, rfl⟩
          rw [HT.out, HY.out.2]
          first
            | rw [if_pos ‹_›]
            | rw [if_neg ‹_›]

theorem digit_cut (n : Nat) (h : n < 10) : (⟨#[48, 49, 50, 51, 52, 53, 54, 55, 56, 57]⟩ : ByteArray).extract n (n + 1) = str (digI n) := by
  have : ∀ n : Fin 10, (⟨#[48, 49, 50, 51, 52, 53, 54, 55, 56, 57]⟩ : ByteArray).extract n.val (n.val + 1) = str [dch n.val] := by decide
  rw [this ⟨n, h⟩]
  unfold digI
  rw [if_neg (by omega)]
  show _ = str (digN n)
  rw [digN_small h]

theorem digI_len {n : Int} (h0 : -9223372036854775807 ≤ n) (h1 : n ≤ 9223372036854775807) : (digI n).length ≤ 20 := by
  have := digN_len n.natAbs 19 (by omega) (by omega)
  have h := (bare_digI n).2
  split at h <;> omega

theorem u8_ge {c : UInt8} : digB c = decide (48 ≤ (c.toNat : Int) ∧ (c.toNat : Int) ≤ 57) := by
  unfold digB; rw [Bool.eq_iff_iff]; simp; omega

theorem head_45 (d : List UInt8) (h : 0 < d.length) : ∀ g, (((str d)[0]'g).toNat : Int) = 45 ↔ d.head? = some 45 := by
  intro g
  rw [str_get]
  cases d with
  | nil => simp at h
  | cons c d =>
    simp
    constructor
    · intro e; exact UInt8.toNat_inj.1 (by simp; omega)
    · intro e; subst e; rfl

theorem ref_parts (l : List UInt8) (h : (l.length : Int) ≤ 11) : (¬ (-9999999999 ≤ refV l ∧ refV l ≤ 9999999999 ∧ digI (refV l) = l) → numB l = false) ∧ ((-9999999999 ≤ refV l ∧ refV l ≤ 9999999999) → digI (refV l) = l → numB l = true ∧ numV l = refV l) := by
  rw [← refB_num]
  constructor
  · intro g
    unfold refB
    rw [Bool.and_eq_false_iff, Bool.and_eq_false_iff, decide_eq_false_iff_not, decide_eq_false_iff_not, beq_eq_false_iff_ne]
    by_cases a : -9999999999 ≤ refV l ∧ refV l ≤ 9999999999
    · exact .inr (.inr fun e => g ⟨a.1, a.2, e⟩)
    · exact .inr (.inl a)
  · intro a b
    have : refB l = true := by
      unfold refB
      rw [decide_eq_true (by omega), decide_eq_true a, b]; simp
    exact ⟨this, (refV_num (by rw [← refB_num]; exact this)).symm⟩

end Go.Proofs.Ytgklollpajhmlaa
