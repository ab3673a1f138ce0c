/- Contract: the document's own way to lay literals in order, each once; rows that are kept. -/
import Derived.Test.YtaepanmkofhgoaaWalkD
import Derived.Test.YtaepanmkofhgoaaPlain3
set_option linter.unusedVariables false
set_option linter.unusedSimpArgs false
namespace Go.Proofs.Ytaepanmkofhgoaa
open Go.RowKit

theorem Row.below {w w' : World} {a : Option Addr} {xs : List Int} (h : Row w a xs) (hb : Below w.heap.size w w') : Row w' a xs := by
  intro i hi
  obtain ⟨b, off, e, hlt, hc⟩ := h i hi
  exact ⟨b, off, e, Nat.lt_of_lt_of_le hlt hb.size, (hb.cell (p := ⟨b, off + i, none⟩) hlt).trans hc⟩

theorem Own.src {base : Nat} {w : World} {v : Value} {xs : List Int} (h : Own base w v xs) (hv : v ≠ .slice none 0 0) :
    ∃ g cap, v = .slice (some ⟨g, 0, none⟩) xs.length cap ∧ base ≤ g ∧ g < w.heap.size ∧ ∀ j u, (xs.map (Value.int .i64))[j]? = some u → w.cell? ((⟨g, 0, none⟩ : Addr).add j) = some u := by
  have h' := h
  unfold Own at h
  rcases h.2 with ⟨e, _⟩ | ⟨g, cap, cur, rfl, hb, hg, hn, hm, hs, ht⟩
  · exact absurd e hv
  · exact ⟨g, cap, rfl, hb, (Array.getElem?_eq_some_iff.1 hg).1, World.ownsRow.cells h rfl⟩


theorem own_join {base : Nat} {w : World} {v : Value} {xs ys : List Int} (h : w.ownsRow base 3 1 v (xs.length + ys.length) (xs.map (Value.int .i64) ++ ys.map (Value.int .i64))) : Own base w v (xs ++ ys) := by
  unfold Own; rw [List.length_append, List.map_append]; exact h


theorem Own.below {base : Nat} {w w' : World} {v : Value} {xs : List Int} (h : Own base w v xs) (hb : Below w.heap.size w w') : Own base w' v xs := by
  unfold Own at *
  refine World.ownsRow.kept h (row := none) ⟨hb.os, hb.tape, hb.output, hb.size, fun k hk _ => hb.block k hk⟩ ?_
  cases v.ownBlock <;> simp


theorem lits_join {xs ys : List Int} {n k : Int} (h : Lits xs) (g : Lits ys) : Lits (wo xs n ++ wo ys k) := by
  intro x hx
  rcases List.mem_append.1 hx with hx | hx
  · exact h x (List.mem_filter.1 hx).1
  · exact g x (List.mem_filter.1 hx).1


/-- A row of the call's own, as it was made. -/
theorem lit_row (w : World) (xs : List Int) : Row (w.alloc (.cells (xs.map (Value.int .i64)).toArray 3)) (some ⟨w.heap.size, 0, none⟩) xs := by
  intro i hi
  refine ⟨w.heap.size, 0, rfl, by simp, ?_⟩
  rw [World.cell?_alloc_at _ _ _ _ rfl]
  simp [hi]


theorem row_two (w : World) (x y : Int) : Row (w.alloc (.cells #[.int .i64 x, .int .i64 y] 3)) (some ⟨w.heap.size, 0, none⟩) [x, y] := lit_row w [x, y]

theorem row_three (w : World) (x y z : Int) : Row (w.alloc (.cells #[.int .i64 x, .int .i64 y, .int .i64 z] 3)) (some ⟨w.heap.size, 0, none⟩) [x, y, z] := lit_row w [x, y, z]

theorem below_alloc (w : World) (o : Obj) : Below w.heap.size w (w.alloc o) := (Below.refl _ _).alloc (Nat.le_refl _) o

theorem size_alloc (w : World) (o : Obj) : (w.alloc o).heap.size = w.heap.size + 1 := by simp


theorem hasB_same {xs ys : List Int} (h : ∀ x, x ∈ xs ↔ x ∈ ys) (n : Int) : hasB xs n = hasB ys n := by
  rw [Bool.eq_iff_iff, hasB_iff, hasB_iff]; exact h n


theorem Row.cells {w : World} {a : Option Addr} {xs : List Int} (h : Row w a xs) : xs = [] ∨ ∃ b off, a = some ⟨b, off, none⟩ ∧ b < w.heap.size ∧ ∀ j, j < xs.length → w.cell? ⟨b, off + j, none⟩ = some (.int .i64 (xs.getD j 0)) := by
  cases xs with
  | nil => exact .inl rfl
  | cons x xs =>
    right
    obtain ⟨b, off, rfl, hb, _⟩ := h 0 (by simp)
    refine ⟨b, off, rfl, hb, fun j hj => ?_⟩
    obtain ⟨b', off', e, _, hc⟩ := h j hj
    cases e
    rw [hc, List.getD_eq_getElem?_getD, List.getElem?_eq_getElem hj]; rfl


theorem own_row {base : Nat} {w : World} {g cap : Nat} {xs : List Int} (h : Own base w (.slice (some ⟨g, 0, none⟩) xs.length cap) xs) : Row w (some ⟨g, 0, none⟩) xs := by
  obtain ⟨a, c, e, hr, _⟩ := h.row
  cases e
  exact hr

theorem quiet_shift {P : Program} {f : FuncId} {args : Array Value} {w : World} {n k : Nat} {v : Value}
    (h : Calls P f args (w.drewN (n + k)) fun e w' => e = .returned v ∧ w' = w.drewN (n + k)) : Calls P f args (w.drewN (n + k)) fun e w'' => e = .returned v ∧ ∃ m, w'' = w.drewN (n + m) :=
  h.mono fun _ _ ⟨he, hm⟩ => ⟨he, k, hm⟩

theorem cells_take {w : World} {g : Nat} {os : List Int} (h : ∀ j u, (os.map (Value.int .i64))[j]? = some u → w.cell? ((⟨g, 0, none⟩ : Addr).add j) = some u) (q : Nat) :
    ∀ j u, ((os.take q).map (Value.int .i64))[j]? = some u → w.cell? ((⟨g, 0, none⟩ : Addr).add j) = some u := by
  intro j u hu
  refine h j u ?_
  rw [List.map_take, List.getElem?_take] at hu
  split at hu
  · exact hu
  · cases hu

theorem cells_drop {w : World} {g : Nat} {os : List Int} (h : ∀ j u, (os.map (Value.int .i64))[j]? = some u → w.cell? ((⟨g, 0, none⟩ : Addr).add j) = some u) (q : Nat) :
    ∀ j u, ((os.drop q).map (Value.int .i64))[j]? = some u → w.cell? ((⟨g, q, none⟩ : Addr).add j) = some u := by
  intro j u hu
  have := h (q + j) u (by rw [List.map_drop, List.getElem?_drop] at hu; exact hu)
  rw [Go.WideShapes.add_plain] at this ⊢
  rw [Nat.zero_add] at this
  exact this

theorem cells_below {w w' : World} {g o : Nat} {vs : List Value} (h : ∀ j u, vs[j]? = some u → w.cell? ((⟨g, o, none⟩ : Addr).add j) = some u) (hg : g < w.heap.size) (hb : Below w.heap.size w w') :
    ∀ j u, vs[j]? = some u → w'.cell? ((⟨g, o, none⟩ : Addr).add j) = some u := by
  intro j u hu
  have := h j u hu
  rw [Go.WideShapes.add_plain] at this ⊢
  rw [← this]
  exact hb.cell (p := ⟨g, o + j, none⟩) hg

/-- What is appended begins at one of two places. -/
theorem append_if {P : Program} (w : World) {ops : Array Oper} {rest : List Oper} {o : Oper} {a : Act} {Q : Exit → Act → World → Prop} (hgd : o.guard = none) (s x : Operand) (t : TypeId)
    (ho : o.op = .call { callee := .builtin .append, args := #[s, x], argTypes := #[t, t] })
    (base : Nat) (e : TypeId) (i : TypeInfo) (z : Value) (size bytes : Nat) (ht : P.underlying t = some (.slice e)) (hi : P.info? e = some i) (hz : i.zero = some z)
    (hsize : i.size = size) (hby : i.bytes = bytes) (hzs : z.cells.size = size) (hsz : 0 < size)
    (v : Value) (n : Nat) (xs : List Value) (hs : a.eval s = v) (hown : w.ownsRow base e size v n xs)
    (cnd : Prop) [Decidable cnd] (a1 a2 : Addr) (m c : Nat) (news : List Value) (hx : a.eval x = .slice (if cnd then some a1 else some a2) m c) (hl : news.length = m * size)
    (hnews1 : cnd → news = []) (hnews2 : ¬ cnd → ∀ j u, news[j]? = some u → w.cell? (a2.add j) = some u) (h1 : ∀ u ∈ news, u.oneCell' = true)
    (h63 : n + m ≤ maxLen) (hbytes : (n + m) * bytes ≤ 140737488355328) (hbase : base ≤ w.heap.size)
    (h : ∀ v' w', w'.ownsRow base e size v' (n + m) (xs ++ news) → w.grownBy w' v.ownBlock → (v' = .slice none 0 0 ↔ v = .slice none 0 0 ∧ m = 0) → wpList P ops Q rest (a.put o.dst v') w') : wpList P ops Q (o :: rest) a w := by
  refine wpList_append_own w hgd s x t ho base e i z size bytes ht hi hz hsize hby hzs hsz v n xs hs hown (if cnd then a1 else a2) m c news ?_ hl ?_ h1 h63 hbytes hbase h
  · rw [hx]; split <;> rfl
  · intro j u hu
    by_cases hc : cnd
    · rw [hnews1 hc] at hu; simp at hu
    · rw [if_neg hc]; exact hnews2 hc j u hu

theorem own_three {base : Nat} {w : World} {v : Value} {os : List Int} {x : Int} {q : Nat} (h : w.ownsRow base 3 1 v (q + 1 + (os.length - q)) ((os.take q).map (Value.int .i64) ++ [.int .i64 x] ++ (os.drop q).map (Value.int .i64))) (hq : q ≤ os.length) :
    Own base w v (os.take q ++ x :: os.drop q) := by
  unfold Own
  have e1 : (os.take q ++ x :: os.drop q).length = q + 1 + (os.length - q) := by simp; omega
  have e2 : (os.take q ++ x :: os.drop q).map (Value.int .i64) = (os.take q).map (Value.int .i64) ++ [.int .i64 x] ++ (os.drop q).map (Value.int .i64) := by simp
  rw [e1, e2]; exact h

theorem Own.mono {base base' : Nat} {w : World} {v : Value} {xs : List Int} (h : Own base w v xs) (hb : base' ≤ base) : Own base' w v xs := by
  unfold Own at *
  refine ⟨h.1, ?_⟩
  rcases h.2 with hn | ⟨g, cap, cur, e, h1, r⟩
  · exact .inl hn
  · exact .inr ⟨g, cap, cur, e, Nat.le_trans hb h1, r⟩

set_option maxHeartbeats 2000000 in
theorem order_any (a : Option Addr) (cap : Nat) (c : List Int) (w : World) (hr : Row w a c) (hl : c.length ≤ 20000) (hli : Lits c) :
    Calls Try.prog 32 #[.slice a c.length cap] w fun e w' => ∃ v, e = .returned v ∧ Own w.heap.size w' v (order c) ∧ Below w.heap.size w w' := by
  obtain ⟨i0, hi, hz0, hz1, hz2⟩ := info_parts Try.info3
  go_enter Try.func32, Try.ntmps32
  go_wp2
  go_loopw [3, 4] (fun v i wr => ∃ k : Nat, k ≤ c.length ∧ i = .int .i64 k ∧ Own w.heap.size wr v (order (c.take k)) ∧ v ≠ .slice none 0 0 ∧ Below w.heap.size w wr) (fun _ i _ => c.length - (intOf i).toNat)
  case atStart => exact ⟨0, Nat.zero_le _, rfl, World.ownsRow_lit (e := 3) (size := 1) w #[] 0 (Nat.le_refl _) (Nat.zero_le _) rfl, by simp, (Below.refl _ _).alloc (Nat.le_refl _) _⟩
  case round =>
    obtain ⟨k, hk, rfl, hown, hnn, hbel⟩ := hrel
    by_cases hlt : k < c.length
    · obtain ⟨b, off, rfl, hb, hc⟩ := hr k hlt
      have hc' := (hbel.cell (p := ⟨b, off + k, none⟩) hb).trans hc
      have HST := hide (order_take hlt)
      have hol : (order (c.take k)).length ≤ k := Nat.le_trans (order_len _) (List.length_take_le _ _)
      have hlo : Lits (order (c.take k)) := order_lits fun x hx => hli x (List.mem_of_mem_take hx)
      have hx := hli c[k] (List.getElem_mem hlt)
      have hbw : b < wr.heap.size := Nat.lt_of_lt_of_le hb hbel.size
      clear hr hc hb
      generalize hxx : c[k] = x at *
      generalize hos : order (c.take k) = os at *
      clear hxx hos
      obtain ⟨g, cap1, rfl, hg1, hg2, hcells⟩ := hown.src hnn
      have hrow := own_row hown
      have hcap1 : os.length ≤ cap1 := by obtain ⟨_, _, e, _, _, h⟩ := hown.row; cases e; exact h
      have CH := has_any _ cap1 os x wr hrow (by unfold maxLen; omega)
      by_cases hh : hasB os x = true
      · rw [hh] at CH
        replace CH := hide CH
        have HE : Hid (ins os x = os) := by show _ = _; unfold ins; rw [hh]; rfl
        have HO := hide hown
        have HR := hide hrow
        clear hown hrow hh hcells hlo hx
        go_wp2_with fail
        refine (unhide CH).mono ?_
        rintro e w0 ⟨rfl, hw0⟩
        subst w0
        go_wp2
        go_roundw
        case rel => exact ⟨k + 1, by omega, by go_num, by rw [HST.out, HE.out]; exact HO.out, by simp, hbel⟩
        case measure => simp [intOf]; omega
      · have hh' : hasB os x = false := by simpa using hh
        rw [hh'] at CH
        replace CH := hide CH
        have HE : Hid (ins os x = os.take (cut os x) ++ x :: os.drop (cut os x)) := by show _ = _; unfold ins; rw [hh']; rfl
        have HO := hide hown
        have HR := hide hrow
        have HC := hide hcells
        clear hown hrow hh hh' hcells
        go_wp2_with fail
        refine (unhide CH).mono ?_
        rintro e w0 ⟨rfl, hw0⟩
        subst w0
        go_wp2
        go_loopw [5] (fun j wi => ∃ q n : Nat, q ≤ os.length ∧ j = .int .i64 q ∧ (∀ i (h : i < q) (h' : i < os.length), aheadB os[i] x = true) ∧ wi = wr.drewN n) (fun j _ => os.length - (intOf j).toNat)
        case atStart => exact ⟨0, 0, Nat.zero_le _, rfl, fun i h => by omega, rfl⟩
        case round =>
          obtain ⟨q, n, hq, rfl, hno, rfl⟩ := hrel
          have HN := hide hno
          clear hno
          by_cases hqlt : q < os.length
          · obtain ⟨b2, off2, e2, hb2, hc2⟩ := HR.out q hqlt
            cases e2
            have hy := hlo os[q] (List.getElem_mem hqlt)
            have hqi : (q : Int) < os.length := by omega
            simp only [Nat.zero_add] at hc2
            by_cases hah : aheadB os[q] x = true
            · have CA := fun w => ahead_any os[q] x w hy hx
              rw [hah] at CA
              replace CA := hide CA
              have HF : Hid (∀ i (h : i < q + 1) (h' : i < os.length), aheadB os[i] x = true) := by
                intro i h h'
                rcases Nat.lt_or_ge i q with h2 | h2
                · exact HN.out i h2 h'
                · have e : i = q := by omega
                  subst e; exact hah
              clear hah hy HN HR HC HO CH
              go_wp2
              go_quiet ((go_at_call 55; exact quiet_shift (unhide CA _)))
              go_wp2
              go_roundw
              case rel => exact ⟨q + 1, _, by omega, by go_num, HF.out, rfl⟩
              case measure => simp [intOf]; omega
            · have hah' : aheadB os[q] x = false := by simpa using hah
              have CA := fun w => ahead_any os[q] x w hy hx
              rw [hah'] at CA
              replace CA := hide CA
              have HF : Hid (cut os x = q) := cut_of (by omega) (fun i h => HN.out i h (by omega)) (fun h => hah')
              clear hah hah' hy HN CH
              go_wp2
              go_quiet ((go_at_call 55; exact quiet_shift (unhide CA _)))
              have HCT := hide (cells_take HC.out q)
              have HCD := hide (cells_drop HC.out q)
              have htl : ((os.take q).map (Value.int .i64)).length = q * 1 := by simp; omega
              have hdl : ((os.drop q).map (Value.int .i64)).length = (os.length - q) * 1 := by simp
              have HD0 : Hid (cap1 = q → (os.drop q).map (Value.int .i64) = []) := by intro h; rw [List.drop_of_length_le (by omega)]; rfl
              clear HC HO HR
              go_wp2_with (first
                | (at_builtin; refine wpList_append_own _ rfl (.tmp 37) (.tmp 40) 23 rfl wr.heap.size 3 i0 (.int .i64 0) 1 8 Try.underlying23 hi hz0 hz1 hz2 rfl (by decide) (.slice (some ⟨wr.heap.size, 0, none⟩) 0 0) 0 [] rfl (World.ownsRow_lit (e := 3) (size := 1) _ #[] 0 (Nat.le_refl _) (Nat.zero_le _) rfl) ⟨g, 0, none⟩ q cap1 ((os.take q).map (Value.int .i64)) rfl htl (cells_below HCT.out hg2 (below_drewN (Below.refl _ _) _ |>.alloc (Nat.le_refl _) _)) (ints_oneCell _ _) (by unfold maxLen; omega) (by omega) (by simp) ?_; intro v1 w1 hown1 hgrow1 hnil1; have hb1 := ((below_drewN (Below.refl wr.heap.size wr) _).alloc (Nat.le_refl _) (.cells #[] 3)).grown hgrow1 (by simp) (by intro k hk; cases hk; exact Nat.le_refl _); have hcx := (hb1.cell (p := ⟨b, off + k, none⟩) hbw).trans hc'; simp only [List.nil_append, Nat.zero_add] at hown1; clear hnil1 hgrow1)
                | (at_builtin; refine wpList_append_own _ rfl (.tmp 42) (.tmp 47) 23 rfl wr.heap.size 3 i0 (.int .i64 0) 1 8 Try.underlying23 hi hz0 hz1 hz2 rfl (by decide) v1 _ _ rfl (hown1.alloc _) ⟨w1.heap.size, 0, none⟩ 1 1 [.int .i64 x] rfl rfl (cell_one_new _ _ _) (fun x hx => by simp at hx; subst hx; rfl) (by unfold maxLen; omega) (by omega) (by have := hb1.size; simp; omega) ?_; intro v2 w2 hown2 hgrow2 hnil2; have hnn2 : Hid (v2 ≠ .slice none 0 0) := fun h => absurd (hnil2.1 h).2 (by decide); have hb2 := (hb1.alloc hb1.size (.cells #[.int .i64 x] 3)).grown hgrow2 (by have := hb1.size; simp; omega) (fun k hk => (hown1.lt k hk).1); clear hgrow2 hown1 hcx hb1 hnil2)
                | (at_builtin; refine wpList_append_own _ rfl (.tmp 49) (.tmp 52) 23 rfl wr.heap.size 3 i0 (.int .i64 0) 1 8 Try.underlying23 hi hz0 hz1 hz2 rfl (by decide) v2 _ _ rfl hown2 ⟨g, q, none⟩ (os.length - q) (cap1 - q) ((os.drop q).map (Value.int .i64)) rfl hdl (cells_below HCD.out hg2 hb2) (ints_oneCell _ _) (by unfold maxLen; omega) (by omega) hb2.size ?_; intro v3 w3 hown3 hgrow3 hnil3; have hnn3 : v3 ≠ .slice none 0 0 := fun h => hnn2.out (hnil3.1 h).1; have hb3 := hb2.grown hgrow3 hb2.size (fun k hk => (hown2.lt k hk).1); have hown4 := own_three hown3 (by omega); clear hgrow3 hown2 hb2 hnil3 hown3 hnn2))
              go_roundw
              case rel => exact ⟨k + 1, by omega, by go_num, by rw [HST.out, HE.out, HF.out]; exact hown4.mono hbel.size, hnn3, hbel.trans (hb3.mono hbel.size)⟩
              case measure => simp [intOf]; omega
          · have hqe : ¬ (q : Int) < os.length := by omega
            have hd : decide ((q : Int) < os.length) = false := by simpa using hqe
            have HF : Hid (cut os x = q) := cut_of (by omega) (fun i h => HN.out i h (by omega)) (fun h => by omega)
            clear HN
            go_wp2
            go_quiet (fail)
            have HCT := hide (cells_take HC.out q)
            have HCD := hide (cells_drop HC.out q)
            have htl : ((os.take q).map (Value.int .i64)).length = q * 1 := by simp; omega
            have hdl : ((os.drop q).map (Value.int .i64)).length = (os.length - q) * 1 := by simp
            have HD0 : Hid (cap1 = q → (os.drop q).map (Value.int .i64) = []) := by intro h; rw [List.drop_of_length_le (by omega)]; rfl
            clear HC HO HR
            go_wp2_with (first
              | (at_builtin; refine wpList_append_own _ rfl (.tmp 37) (.tmp 40) 23 rfl wr.heap.size 3 i0 (.int .i64 0) 1 8 Try.underlying23 hi hz0 hz1 hz2 rfl (by decide) (.slice (some ⟨wr.heap.size, 0, none⟩) 0 0) 0 [] rfl (World.ownsRow_lit (e := 3) (size := 1) _ #[] 0 (Nat.le_refl _) (Nat.zero_le _) rfl) ⟨g, 0, none⟩ q cap1 ((os.take q).map (Value.int .i64)) rfl htl (cells_below HCT.out hg2 (below_drewN (Below.refl _ _) _ |>.alloc (Nat.le_refl _) _)) (ints_oneCell _ _) (by unfold maxLen; omega) (by omega) (by simp) ?_; intro v1 w1 hown1 hgrow1 hnil1; have hb1 := ((below_drewN (Below.refl wr.heap.size wr) _).alloc (Nat.le_refl _) (.cells #[] 3)).grown hgrow1 (by simp) (by intro k hk; cases hk; exact Nat.le_refl _); have hcx := (hb1.cell (p := ⟨b, off + k, none⟩) hbw).trans hc'; simp only [List.nil_append, Nat.zero_add] at hown1; clear hnil1 hgrow1)
              | (at_builtin; refine wpList_append_own _ rfl (.tmp 42) (.tmp 47) 23 rfl wr.heap.size 3 i0 (.int .i64 0) 1 8 Try.underlying23 hi hz0 hz1 hz2 rfl (by decide) v1 _ _ rfl (hown1.alloc _) ⟨w1.heap.size, 0, none⟩ 1 1 [.int .i64 x] rfl rfl (cell_one_new _ _ _) (fun x hx => by simp at hx; subst hx; rfl) (by unfold maxLen; omega) (by omega) (by have := hb1.size; simp; omega) ?_; intro v2 w2 hown2 hgrow2 hnil2; have hnn2 : Hid (v2 ≠ .slice none 0 0) := fun h => absurd (hnil2.1 h).2 (by decide); have hb2 := (hb1.alloc hb1.size (.cells #[.int .i64 x] 3)).grown hgrow2 (by have := hb1.size; simp; omega) (fun k hk => (hown1.lt k hk).1); clear hgrow2 hown1 hcx hb1 hnil2)
              | (at_builtin; refine append_if _ rfl (.tmp 49) (.tmp 52) 23 rfl wr.heap.size 3 i0 (.int .i64 0) 1 8 Try.underlying23 hi hz0 hz1 hz2 rfl (by decide) v2 _ _ rfl hown2 (cap1 = q) ⟨g, 0, none⟩ ⟨g, q, none⟩ (os.length - q) (cap1 - q) ((os.drop q).map (Value.int .i64)) (by rfl) hdl HD0.out (fun _ => cells_below HCD.out hg2 hb2) (ints_oneCell _ _) (by unfold maxLen; omega) (by omega) hb2.size ?_; intro v3 w3 hown3 hgrow3 hnil3; have hnn3 : v3 ≠ .slice none 0 0 := fun h => hnn2.out (hnil3.1 h).1; have hb3 := hb2.grown hgrow3 hb2.size (fun k hk => (hown2.lt k hk).1); have hown4 := own_three hown3 (by omega); clear hgrow3 hown2 hb2 hnil3 hown3 hnn2))
            go_roundw
            case rel => exact ⟨k + 1, by omega, by go_num, by rw [HST.out, HE.out, HF.out]; exact hown4.mono hbel.size, hnn3, hbel.trans (hb3.mono hbel.size)⟩
            case measure => simp [intOf]; omega
    · have hz : c.length ≤ k := by omega
      clear hr
      go_wp2
      go_ret
      exact ⟨_, rfl, by rw [List.take_of_length_le hz] at hown; exact hown, hbel⟩

end Go.Proofs.Ytaepanmkofhgoaa
