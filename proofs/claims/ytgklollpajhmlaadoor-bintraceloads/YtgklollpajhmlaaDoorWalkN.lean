/- Contracts: which number a word is (the program's own way, and the document's), and a number's digits. -/
import Derived.Test.YtgklollpajhmlaaDoorWalkA
import Derived.Test.YtgklollpajhmlaaDoorPlainN
import Derived.Lib.Strings
import Derived.Laws.Strings3
import Derived.Lib.Walk
set_option linter.unusedVariables false
set_option linter.unusedSimpArgs false
namespace Go.Proofs.YtgklollpajhmlaaDoor
open Go.RowKit

/-- A list of bytes, as a string. -/
def str (l : List UInt8) : ByteArray := ⟨l.toArray⟩

theorem str_toList (l : List UInt8) : (str l).toList = l := by rw [Lib.toList_data]; rfl
theorem str_size (l : List UInt8) : (str l).size = l.length := by simp [str, ByteArray.size]
theorem str_eq (s : ByteArray) : str s.data.toList = s := by cases s; simp [str]
theorem str_inj {a b : List UInt8} (h : str a = str b) : a = b := by rw [← str_toList a, h, str_toList]
theorem str_get (l : List UInt8) (k : Nat) (h : k < (str l).size) : (str l)[k] = l[k]'(by rw [str_size] at h; exact h) := rfl
theorem str_extract (l : List UInt8) (i j : Nat) : (str l).extract i j = str ((l.drop i).take (j - i)) := by
  apply ByteArray.ext
  rw [ByteArray.data_extract]
  simp [str]
theorem str_append (a b : List UInt8) : str a ++ str b = str (a ++ b) := by
  apply ByteArray.ext
  simp [str]
theorem ret_string {a b : ByteArray} (h : a = b) : Ending.returned (.string a) = .returned (.string b) := by rw [h]
theorem ret_num {a a' : Int} {b b' : Bool} (h : a = a') (g : b = b') : Ending.returned (.tuple #[.int .i64 a, .bool b]) = .returned (.tuple #[.int .i64 a', .bool b']) := by rw [h, g]

theorem one_head {l : List UInt8} : ((str l).extract 0 1).toList == [45] ↔ l.head? = some 45 := by
  rw [str_extract, str_toList]
  cases l <;> simp

set_option maxHeartbeats 1000000 in
theorem trim_any (l : List UInt8) (w : World) (hl : l.length ≤ maxLen) :
    Calls Tryd.prog 47 #[.string (str l), .string ⟨#[45]⟩] w fun e w' => e = .returned (.string (str (bare l))) ∧ w' = w := by
  have hs := str_size l
  unfold maxLen at hl
  go_enter Tryd.func47, Tryd.ntmps47
  go_wp2
  · go_ret
    refine ⟨ret_string ?_, rfl⟩
    rw [str_extract]
    have : l.head? = some 45 := one_head.1 ‹_›
    unfold bare
    rw [if_pos this]
    congr 1
    rw [List.take_of_length_le (by simp)]
    simp
  · go_ret
    refine ⟨ret_string ?_, rfl⟩
    have : ¬ l.head? = some 45 := fun e => by have h1 := one_head.2 e; simp_all
    unfold bare
    rw [if_neg this]
  · go_ret
    refine ⟨ret_string ?_, rfl⟩
    have : l = [] := by
      cases l with
      | nil => rfl
      | cons c l => exfalso; simp only [List.length_cons] at *; omega
    subst this
    rfl

theorem take_snocU (l : List UInt8) (k : Nat) (h : k < l.length) : l.take (k + 1) = l.take k ++ [l[k]] := List.take_succ_eq_append_getElem h
theorem allU_snoc (l : List UInt8) (k : Nat) (h : k < l.length) (hk : (l.take k).all digB = true) (hp : digB l[k] = true) : (l.take (k + 1)).all digB = true := by
  rw [take_snocU l k h, List.all_append, hk]; simp [hp]
theorem allU_no (l : List UInt8) (k : Nat) (h : k < l.length) (hp : digB l[k] = false) : l.all digB = false := by
  rw [List.all_eq_false]; exact ⟨l[k], List.getElem_mem h, by simp [hp]⟩
theorem decV_bd {l : List UInt8} (h : l.all digB = true) (hl : l.length ≤ 11) : decV l < 100000000000 := by
  have := decV_le h
  have h2 : 10 ^ l.length ≤ 10 ^ 11 := Nat.pow_le_pow_right (by omega) hl
  omega
theorem bare_len (l : List UInt8) : (bare l).length ≤ l.length := by unfold bare; split <;> simp
theorem u8_sub {c : UInt8} (h : 48 ≤ (c.toNat : Int)) : ((c.toNat : Int) - 48) % 256 = ((c.toNat - 48 : Nat) : Int) := by
  have := c.toNat_lt; omega

theorem head_48 (d : List UInt8) (h : 0 < d.length) : ∀ g, (((str d)[0]'g).toNat : Int) = 48 ↔ d.head? = some 48 := by
  intro g
  rw [str_get]
  cases d with
  | nil => simp at h
  | cons c d =>
    simp
    constructor
    · intro e; exact UInt8.toNat_inj.1 (by simp; omega)
    · intro e; subst e; rfl

theorem num_parts {l d : List UInt8} (hd : bare l = d) (h1 : 1 ≤ d.length) (h2 : d.length ≤ 10) :
    (d.head? = some 48 ∧ 1 < l.length → numB l = false) ∧ (¬ (d.head? = some 48 ∧ 1 < l.length) → (d.all digB = false → numB l = false) ∧ (d.all digB = true → numB l = true ∧ numV l = if d.length < l.length then -(decV d : Int) else decV d)) := by
  unfold numV numB
  rw [hd]
  refine ⟨fun h => ?_, fun h => ⟨fun g => ?_, fun g => ?_⟩⟩
  · rw [decide_eq_false (fun k => k.2.2 h)]; rfl
  · rw [g]; simp
  · rw [g, decide_eq_true ⟨h1, h2, h⟩]; simp

set_option maxHeartbeats 2000000 in
theorem number_any (l : List UInt8) (w : World) (hl : l.length ≤ maxLen) :
    Calls Tryd.prog 42 #[.string (str l)] w fun e w' => e = .returned (.tuple #[.int .i64 (numV l), .bool (numB l)]) ∧ w' = w := by
  have C := hide (trim_any l w hl)
  have hs := str_size l
  have hd := str_size (bare l)
  have hbl := bare_len l
  unfold maxLen at hl
  generalize hdd : bare l = d at *
  by_cases h1 : 1 ≤ (d.length : Int)
  case neg =>
    have HF : Hid (numB l = false) := by show _ = _; unfold numB; rw [hdd]; simp; omega
    have h1' : (d.length : Int) < 1 := by omega
    clear h1
    go_enter Tryd.func42, Tryd.ntmps42
    go_wp2_with (go_at_call 47; refine (unhide C).mono ?_; rintro e w' ⟨rfl, rfl⟩)
    go_ret2
    exact ⟨ret_num (numV_no HF.out).symm HF.out.symm, rfl⟩
  by_cases h2 : (d.length : Int) ≤ 10
  case neg =>
    have HF : Hid (numB l = false) := by show _ = _; unfold numB; rw [hdd]; simp; omega
    have h2' : 10 < (d.length : Int) := by omega
    clear h2
    go_enter Tryd.func42, Tryd.ntmps42
    go_wp2_with (go_at_call 47; refine (unhide C).mono ?_; rintro e w' ⟨rfl, rfl⟩)
    go_ret2
    exact ⟨ret_num (numV_no HF.out).symm HF.out.symm, rfl⟩
  have hg0 : 0 < d.length := by omega
  have HH := hide (head_48 d hg0)
  have HN := hide (num_parts hdd (by omega) (by omega))
  go_enter Tryd.func42, Tryd.ntmps42
  go_wp2_with (go_at_call 47; refine (unhide C).mono ?_; rintro e w' ⟨rfl, rfl⟩)
  · have HF : Hid (numB l = false) := (HN.out).1 ⟨(HH.out _).1 ‹_›, by omega⟩
    go_ret2
    exact ⟨ret_num (numV_no HF.out).symm HF.out.symm, rfl⟩
  all_goals
    have HO : Hid (¬ (d.head? = some 48 ∧ 1 < l.length)) := by
      show ¬ _
      rintro ⟨g1, g2⟩
      first
        | omega
        | exact absurd ((HH.out (by rw [hd]; exact hg0)).2 g1) ‹_›
    have HP := hide (HN.out.2 HO.out)
    clear HH HN HO
    go_loop [5, 27] (fun n i => ∃ k : Nat, k ≤ d.length ∧ i = .int .i64 k ∧ n = .int .i64 (decV (d.take k)) ∧ (d.take k).all digB = true) (fun _ i => d.length - (intOf i).toNat)
    case atStart => exact ⟨0, Nat.zero_le _, rfl, rfl, rfl⟩
    case round =>
      obtain ⟨k, hk, rfl, rfl, hall⟩ := hrel
      have hbd := decV_bd hall (by simp; omega)
      have HA := hide hall
      clear hall
      by_cases hlt : k < d.length
      · have HG : Hid ((str d)[k]'(by rw [hd]; exact hlt) = d[k]) := str_get d k (by rw [hd]; exact hlt)
        have HSN := hide (take_snocU d k hlt)
        have HDS := hide (decV_snoc (d.take k) d[k])
        by_cases hc : digB d[k] = true
        · have hc1 : 48 ≤ (((str d)[k]'(by rw [hd]; exact hlt)).toNat : Int) := by rw [HG.out]; unfold digB at hc; simp at hc; omega
          have hc2 : (((str d)[k]'(by rw [hd]; exact hlt)).toNat : Int) ≤ 57 := by rw [HG.out]; unfold digB at hc; simp at hc; omega
          have HAS := hide (allU_snoc d k hlt HA.out hc)
          go_wp2
          go_round
          case rel => exact ⟨k + 1, by omega, by go_num, by rw [HSN.out, HDS.out, HG.out]; unfold digB at hc; simp only [decide_eq_true_eq] at hc; go_num, HAS.out⟩
          case measure => simp [intOf]; omega
        · have HF : Hid (numB l = false) := HP.out.1 (allU_no d k hlt (by simpa using hc))
          have hc1 : ¬ (48 ≤ (((str d)[k]'(by rw [hd]; exact hlt)).toNat : Int) ∧ (((str d)[k]'(by rw [hd]; exact hlt)).toNat : Int) ≤ 57) := by rw [HG.out]; unfold digB at hc; simp at hc; omega
          clear hc
          go_wp2
          all_goals
            go_ret2
            exact ⟨ret_num (numV_no HF.out).symm HF.out.symm, rfl⟩
      · have HT : Hid (d.take k = d) := List.take_of_length_le (by omega)
        have HY := HP.out.2 (by have h := HA.out; rw [HT.out] at h; exact h)
        replace HY := hide HY
        go_wp2
        all_goals
          go_ret2
          refine ⟨ret_num ?_ HY.out.1.symm, rfl⟩
          rw [HT.out, HY.out.2]
          first
            | rw [if_pos ‹_›]
            | rw [if_neg ‹_›]

theorem digit_cut (n : Nat) (h : n < 10) : (⟨#[48, 49, 50, 51, 52, 53, 54, 55, 56, 57]⟩ : ByteArray).extract n (n + 1) = str (digI n) := by
  have : ∀ n : Fin 10, (⟨#[48, 49, 50, 51, 52, 53, 54, 55, 56, 57]⟩ : ByteArray).extract n.val (n.val + 1) = str [dch n.val] := by decide
  rw [this ⟨n, h⟩]
  unfold digI
  rw [if_neg (by omega)]
  show _ = str (digN n)
  rw [digN_small h]

theorem digI_len {n : Int} (h0 : -9223372036854775807 ≤ n) (h1 : n ≤ 9223372036854775807) : (digI n).length ≤ 20 := by
  have := digN_len n.natAbs 19 (by omega) (by omega)
  have h := (bare_digI n).2
  split at h <;> omega

set_option maxHeartbeats 1000000 in
theorem digits_nat (n : Nat) : ∀ w : World, n ≤ 9223372036854775807 → Calls Tryd.prog 37 #[.int .i64 n] w fun e w' => e = .returned (.string (str (digI n))) ∧ w' = w := by
  induction n using Nat.strongRecOn with
  | ind n ih =>
    intro w hn
    have h0 : ¬ (n : Int) < 0 := by omega
    by_cases h : n < 10
    · have hc := digit_cut n h
      have HC := hide hc
      have h1 : (n : Int) < 10 := by omega
      clear ih hc
      go_enter Tryd.func37, Tryd.ntmps37
      go_wp2
      go_ret
      exact ⟨ret_string HC.out, rfl⟩
    · have I1 := ih (n / 10) (by omega) w (by omega)
      have I2 := ih (n % 10) (by omega) w (by omega)
      have h1 : ¬ (n : Int) < 10 := by omega
      have HE := hide (digI_great h)
      rw [Int.natCast_ediv] at I1
      rw [Int.natCast_emod] at I2
      have hx20 : (str (digI ((n / 10 : Nat) : Int))).size ≤ 20 := by rw [str_size]; exact digI_len (by omega) (by omega)
      have hy20 : (str (digI ((n % 10 : Nat) : Int))).size ≤ 20 := by rw [str_size]; exact digI_len (by omega) (by omega)
      generalize hx : digI ((n / 10 : Nat) : Int) = x at *
      generalize hy : digI ((n % 10 : Nat) : Int) = y at *
      have hx' : digI ((n : Int) / ((10 : Nat) : Int)) = x := by rw [← hx, Int.natCast_ediv]
      have hy' : digI ((n : Int) % ((10 : Nat) : Int)) = y := by rw [← hy, Int.natCast_emod]
      rw [hx'] at I1
      rw [hy'] at I2
      replace I1 := hide I1
      replace I2 := hide I2
      clear ih hx hy hx' hy'
      go_enter Tryd.func37, Tryd.ntmps37
      go_wp2_with fail
      refine (unhide I1).mono ?_
      rintro e w0 ⟨rfl, hw0⟩
      subst w0
      go_wp2_with fail
      refine (unhide I2).mono ?_
      rintro e w0 ⟨rfl, hw0⟩
      subst w0
      go_wp2
      go_ret
      exact ⟨ret_string (by rw [str_append, ← HE.out]), rfl⟩

set_option maxHeartbeats 1000000 in
theorem digits_any (n : Int) (w : World) (h0 : -9223372036854775807 ≤ n) (h1 : n ≤ 9223372036854775807) :
    Calls Tryd.prog 37 #[.int .i64 n] w fun e w' => e = .returned (.string (str (digI n))) ∧ w' = w := by
  by_cases h : n < 0
  · have I := digits_nat n.natAbs w (by omega)
    have e : ((n.natAbs : Nat) : Int) = -n := by omega
    rw [e] at I
    have HE : Hid (digI n = 45 :: digI (-n)) := by
      show _ = _
      unfold digI; rw [if_pos h, if_neg (by omega)]; simp
    have hx20 : (str (digI (-n))).size ≤ 20 := by rw [str_size]; exact digI_len (by omega) (by omega)
    generalize digI (-n) = x at *
    replace I := hide I
    clear e
    go_enter Tryd.func37, Tryd.ntmps37
    go_wp2_with fail
    refine (unhide I).mono ?_
    rintro e w0 ⟨rfl, hw0⟩
    subst w0
    go_wp2
    go_ret
    exact ⟨ret_string (by rw [HE.out]; exact str_append [45] x), rfl⟩
  · have I := digits_nat n.natAbs w (by omega)
    have e : ((n.natAbs : Nat) : Int) = n := by omega
    rw [e] at I
    exact I

theorem u8_ge {c : UInt8} : digB c = decide (48 ≤ (c.toNat : Int) ∧ (c.toNat : Int) ≤ 57) := by
  unfold digB; rw [Bool.eq_iff_iff]; simp; omega

theorem head_45 (d : List UInt8) (h : 0 < d.length) : ∀ g, (((str d)[0]'g).toNat : Int) = 45 ↔ d.head? = some 45 := by
  intro g
  rw [str_get]
  cases d with
  | nil => simp at h
  | cons c d =>
    simp
    constructor
    · intro e; exact UInt8.toNat_inj.1 (by simp; omega)
    · intro e; subst e; rfl

theorem ref_parts (l : List UInt8) (h : (l.length : Int) ≤ 11) : (¬ (-9999999999 ≤ refV l ∧ refV l ≤ 9999999999 ∧ digI (refV l) = l) → numB l = false) ∧ ((-9999999999 ≤ refV l ∧ refV l ≤ 9999999999) → digI (refV l) = l → numB l = true ∧ numV l = refV l) := by
  rw [← refB_num]
  constructor
  · intro g
    unfold refB
    rw [Bool.and_eq_false_iff, Bool.and_eq_false_iff, decide_eq_false_iff_not, decide_eq_false_iff_not, beq_eq_false_iff_ne]
    by_cases a : -9999999999 ≤ refV l ∧ refV l ≤ 9999999999
    · exact .inr (.inr fun e => g ⟨a.1, a.2, e⟩)
    · exact .inr (.inl a)
  · intro a b
    have : refB l = true := by
      unfold refB
      rw [decide_eq_true (by omega), decide_eq_true a, b]; simp
    exact ⟨this, (refV_num (by rw [← refB_num]; exact this)).symm⟩

set_option maxHeartbeats 2000000 in
theorem refNumber_any (l : List UInt8) (w : World) (hl : l.length ≤ maxLen) :
    Calls Tryd.prog 28 #[.string (str l)] w fun e w' => e = .returned (.tuple #[.int .i64 (numV l), .bool (numB l)]) ∧ w' = w := by
  have hs := str_size l
  unfold maxLen at hl
  by_cases h1 : (l.length : Int) ≤ 11
  case neg =>
    have HF : Hid (numB l = false) := by show _ = _; rw [← refB_num]; unfold refB; simp; omega
    go_enter Tryd.func28, Tryd.ntmps28
    go_wp2
    go_ret2
    exact ⟨ret_num (numV_no HF.out).symm HF.out.symm, rfl⟩
  go_enter Tryd.func28, Tryd.ntmps28
  go_wp2
  go_loop [4, 5] (fun n i => ∃ k : Nat, k ≤ l.length ∧ i = .int .i64 k ∧ n = .int .i64 (refF (l.take k))) (fun _ i => l.length - (intOf i).toNat)
  case atStart => exact ⟨0, Nat.zero_le _, rfl, rfl⟩
  case round =>
    obtain ⟨k, hk, rfl, rfl⟩ := hrel
    have hbd := refF_bd (l.take k)
    have hpw : 10 ^ (l.take k).length ≤ 10 ^ 11 := Nat.pow_le_pow_right (by omega) (by simp; omega)
    have hbd2 : refF (l.take k) < 100000000000 := by omega
    clear hbd hpw
    by_cases hlt : k < l.length
    · have HG : Hid ((str l)[k]'(by rw [hs]; exact hlt) = l[k]) := str_get l k (by rw [hs]; exact hlt)
      have HSN := hide (take_snocU l k hlt)
      have HDS := hide (refF_snoc (l.take k) l[k])
      have hcb := (l[k]).toNat_lt
      go_wp2
      all_goals
        go_round
        case rel =>
          refine ⟨k + 1, by omega, by go_num, ?_⟩
          rw [HSN.out, HDS.out, u8_ge, ← HG.out]
          first
            | (rw [if_pos (by simp only [decide_eq_true_eq]; omega)]; go_num)
            | (rw [if_neg (by simp only [decide_eq_true_eq]; omega)])
        case measure => simp [intOf]; omega
    · have HT : Hid (l.take k = l) := List.take_of_length_le (by omega)
      have HV : Hid (refV l = if l.head? = some 45 then -(refF l : Int) else refF l) := rfl
      have hft : (refF (l.take k) : Int) = refF l := by rw [HT.out]
      generalize hf : refF (l.take k) = f at *
      have HVV : Hid (refV l = if l.head? = some 45 then -(f : Int) else f) := by show _ = _; rw [HV.out, ← hft]
      clear hft hf HV
      have C := fun v (a : -9223372036854775807 ≤ v) (b : v ≤ 9223372036854775807) => digits_any v w a b
      replace C := hide C
      have HB := hide (ref_parts l h1)
      have key : ∀ v : Int, refV l = v → -100000000000 < v → v < 100000000000 → (∃ g : List UInt8, Hid (digI v = g) ∧ (str g).size ≤ 20 ∧ Hid (Calls Tryd.prog 37 #[.int .i64 v] w fun e w' => e = .returned (.string (str g)) ∧ w' = w)) ∧ Hid (¬ (-9999999999 ≤ v ∧ v ≤ 9999999999 ∧ digI v = l) → numB l = false) ∧ Hid ((-9999999999 ≤ v ∧ v ≤ 9999999999) → digI v = l → numB l = true ∧ numV l = v) := by
        intro v e a b
        subst e
        exact ⟨⟨_, rfl, by rw [str_size]; exact digI_len (by omega) (by omega), C.out _ (by omega) (by omega)⟩, HB.out.1, HB.out.2⟩
      clear C HB
      by_cases hm : l.head? = some 45
      · have hz : 0 < l.length := by
          cases l with
          | nil => simp at hm
          | cons c l => simp
        have hm' := (head_45 l hz (by rw [hs]; exact hz)).2 hm
        obtain ⟨⟨g, HG, hg20, I⟩, HN, HY⟩ := key (-(f : Int)) (by rw [HVV.out, if_pos hm]) (by omega) (by omega)
        clear key HVV hm
        by_cases hr : -9999999999 ≤ -(f : Int)
        · by_cases he : g = l
          · have HYY := HY.out (by omega) (HG.out.trans he)
            replace HYY := hide HYY
            subst he
            go_wp2_with (go_at_call 37; refine (unhide I).mono ?_; rintro e w0 ⟨rfl, hw0⟩; subst w0)
            go_ret2
            exact ⟨ret_num HYY.out.2.symm HYY.out.1.symm, rfl⟩
          · have HF : Hid (numB l = false) := HN.out (fun h => he (HG.out.symm.trans h.2.2))
            have he' : ((str g).toList == (str l).toList) = false := by rw [str_toList, str_toList]; simpa using he
            go_wp2_with (go_at_call 37; refine (unhide I).mono ?_; rintro e w0 ⟨rfl, hw0⟩; subst w0)
            all_goals
              go_ret2
              exact ⟨ret_num (numV_no HF.out).symm HF.out.symm, rfl⟩
        · have HF : Hid (numB l = false) := HN.out (fun h => hr h.1)
          go_wp2_with (go_at_call 37; refine (unhide I).mono ?_; rintro e w0 ⟨rfl, hw0⟩; subst w0)
          all_goals
            go_ret2
            exact ⟨ret_num (numV_no HF.out).symm HF.out.symm, rfl⟩
      · obtain ⟨⟨g, HG, hg20, I⟩, HN, HY⟩ := key (f : Int) (by rw [HVV.out, if_neg hm]) (by omega) (by omega)
        have HZ : Hid (∀ h, ¬ ((((str l)[0]'h).toNat : Int) = 45)) := by
          intro h e
          have hz : 0 < l.length := by rw [hs] at h; exact h
          exact hm ((head_45 l hz h).1 e)
        clear key HVV hm
        have hw : l.length = 0 ∨ 0 < l.length := by omega
        rcases hw with hz | hz
        all_goals
          first
            | (have hz' := HZ.out (by rw [hs]; exact hz))
            | skip
          by_cases hr : (f : Int) ≤ 9999999999
          · by_cases he : g = l
            · have HYY := HY.out (by omega) (HG.out.trans he)
              replace HYY := hide HYY
              subst he
              go_wp2_with (go_at_call 37; refine (unhide I).mono ?_; rintro e w0 ⟨rfl, hw0⟩; subst w0)
              go_ret2
              exact ⟨ret_num HYY.out.2.symm HYY.out.1.symm, rfl⟩
            · have HF : Hid (numB l = false) := HN.out (fun h => he (HG.out.symm.trans h.2.2))
              have he' : ((str g).toList == (str l).toList) = false := by rw [str_toList, str_toList]; simpa using he
              go_wp2_with (go_at_call 37; refine (unhide I).mono ?_; rintro e w0 ⟨rfl, hw0⟩; subst w0)
              all_goals
                go_ret2
                exact ⟨ret_num (numV_no HF.out).symm HF.out.symm, rfl⟩
          · have HF : Hid (numB l = false) := HN.out (fun h => hr h.2.1)
            go_wp2_with (go_at_call 37; refine (unhide I).mono ?_; rintro e w0 ⟨rfl, hw0⟩; subst w0)
            all_goals
              go_ret2
              exact ⟨ret_num (numV_no HF.out).symm HF.out.symm, rfl⟩

end Go.Proofs.YtgklollpajhmlaaDoor
