/- Contracts: a line's next word, by its words; the head. -/
import Derived.Test.YtedpngipkaniaaaDoorWalkT
set_option linter.unusedVariables false
set_option linter.unusedSimpArgs false
namespace Go.Proofs.YtedpngipkaniaaaDoor
open Go.RowKit Go.Maps

attribute [local go_sem ↓] Go.wp_at_zero Go.wp_at_succ

/-- A line's rest. -/
def rest (t : List UInt8) (p q : Nat) : List UInt8 := (t.drop p).take (q - p)

theorem rest_step {t pre v post : List UInt8} {p q : Nat} (h : rest t p q = pre ++ (v ++ post)) (hq : q ≤ t.length) : rest t (p + pre.length + v.length) q = post := by
  unfold rest at *
  have h1 := congrArg (fun l => l.drop (pre.length + v.length)) h
  simp only [List.drop_take, List.drop_drop] at h1
  rw [← Nat.add_assoc] at h1
  have h2 : (pre ++ (v ++ post)).drop (pre.length + v.length) = post := by
    rw [← List.append_assoc, ← List.length_append, List.drop_left]
  rw [h2] at h1
  rw [← h1]
  congr 1
  omega

theorem next_wds (B g : Nat) (w : World) (b off : Nat) (cap : Nat) (t : List UInt8) (p q : Nat) (hC : Cut B g w (some ⟨b, off, none⟩) cap t p q) (v : List UInt8) (ws : List (List UInt8)) (hw : Wds (rest t p q) (v :: ws)) :
    Calls Tryd.prog 35 #[.pointer (some ⟨g + 1, 0, none⟩), .pointer (some ⟨g + 2, 0, none⟩), .pointer (some ⟨g, 0, none⟩)] w fun e w' =>
      ∃ (i : Int) (p' : Nat), e = .returned (.tuple #[.string (str v), .int .i64 i, .bool true]) ∧ w.grownBy w' (some (g + 1)) ∧ Cut B g w' (some ⟨b, off, none⟩) cap t p' q ∧ Wds (rest t p' q) ws ∧ p < p' := by
  obtain ⟨pre, post, hL, h1, h2, h3, h4, h5⟩ := hw.some
  refine (next_some B g w b off cap t p q hC pre v post hL h1 h3 h4 (fun e => absurd e h2)).mono ?_
  rintro e w' ⟨he, hg, hc⟩
  have hpos : 0 < v.length := List.length_pos_iff.2 h2
  refine ⟨_, _, by rw [he, decide_eq_true hpos], hg, hc, ?_, by omega⟩
  rw [rest_step hL hC.len]
  exact h5

theorem next_none (B g : Nat) (w : World) (b off : Nat) (cap : Nat) (t : List UInt8) (p q : Nat) (hC : Cut B g w (some ⟨b, off, none⟩) cap t p q) (hw : Wds (rest t p q) []) :
    Calls Tryd.prog 35 #[.pointer (some ⟨g + 1, 0, none⟩), .pointer (some ⟨g + 2, 0, none⟩), .pointer (some ⟨g, 0, none⟩)] w fun e w' =>
      ∃ (i : Int) (p' : Nat), e = .returned (.tuple #[.string (str []), .int .i64 i, .bool false]) ∧ w.grownBy w' (some (g + 1)) ∧ Cut B g w' (some ⟨b, off, none⟩) cap t p' q ∧ p ≤ p' := by
  refine (next_some B g w b off cap t p q hC (rest t p q) [] [] (by simp [rest]) hw.none rfl (.inl rfl) (fun _ => rfl)).mono ?_
  rintro e w' ⟨he, hg, hc⟩
  exact ⟨_, _, he, hg, hc, by omega⟩

set_option maxHeartbeats 400000 in
theorem headWord_p (w : World) : Calls Tryd.prog 37 #[.int .i64 0, .string (str [112])] w fun e w' => e = .returned (.tuple #[.int .i64 0, .bool true]) ∧ w' = w := by
  have h := str_toList [112]
  go_enter Tryd.func37, Tryd.ntmps37
  go_wp2
  go_ret2
  exact ⟨ret_num rfl (by simp), rfl⟩

set_option maxHeartbeats 400000 in
theorem headWord_cnf (w : World) : Calls Tryd.prog 37 #[.int .i64 1, .string (str [99, 110, 102])] w fun e w' => e = .returned (.tuple #[.int .i64 0, .bool true]) ∧ w' = w := by
  have h := str_toList [99, 110, 102]
  go_enter Tryd.func37, Tryd.ntmps37
  go_wp2
  go_ret2
  exact ⟨ret_num rfl (by simp), rfl⟩

set_option maxHeartbeats 400000 in
theorem headWord_num (w : World) (i : Int) (hi : i = 2 ∨ i = 3) (v : List UInt8) (h1 : numB v = true) (h2 : 0 ≤ numV v) (hl : v.length ≤ maxLen) : Calls Tryd.prog 37 #[.int .i64 i, .string (str v)] w fun e w' => e = .returned (.tuple #[.int .i64 (numV v), .bool true]) ∧ w' = w := by
  have C := number_any v w hl
  rw [h1] at C
  replace C := hide C
  generalize numV v = n at *
  have i0 : (i == 0) = false := by rw [beq_eq_false_iff_ne]; omega
  have i1 : (i == 1) = false := by rw [beq_eq_false_iff_ne]; omega
  clear hi
  go_enter Tryd.func37, Tryd.ntmps37
  go_wp2_with (go_at_call 38; refine (unhide C).mono ?_; rintro e w0 ⟨rfl, hw0⟩; subst w0)
  go_ret2
  exact ⟨ret_num rfl (by simp [h2]), rfl⟩

/-- The head's words, and their numbers. -/
def headWs (v k : List UInt8) : List (List UInt8) := [[112], [99, 110, 102], v, k]
def headNs (v k : List UInt8) : List Int := [0, 0, numV v, numV k]

theorem headWord_any (w : World) (v k : List UInt8) (h1 : numB v = true) (h2 : 0 ≤ numV v) (h3 : numB k = true) (h4 : 0 ≤ numV k) (hv : v.length ≤ maxLen) (hk : k.length ≤ maxLen) (i : Nat) (hi : i < 4) (u : List UInt8) (n : Int) (hu : (headWs v k)[i]? = some u) (hn : (headNs v k)[i]? = some n) :
    Calls Tryd.prog 37 #[.int .i64 (i : Int), .string (str u)] w fun e w' => e = .returned (.tuple #[.int .i64 n, .bool true]) ∧ w' = w := by
  have : i = 0 ∨ i = 1 ∨ i = 2 ∨ i = 3 := by omega
  rcases this with rfl | rfl | rfl | rfl
  all_goals
    cases hu
    cases hn
  · exact headWord_p w
  · exact headWord_cnf w
  · exact headWord_num w 2 (.inl rfl) v h1 h2 hv
  · exact headWord_num w 3 (.inr rfl) k h3 h4 hk

/-- Both arrays of the head's reading, and all that stays. -/
structure Hd (R g N : Nat) (W w : World) (b off cap : Nat) (t : List UInt8) (p q : Nat) (ws : List (List UInt8)) (ns : List Int) (i : Nat) (cs ds : Array Value) : Prop where
  cut : Cut R g w (some ⟨b, off, none⟩) cap t p q
  wds : Wds (rest t p q) (ws.drop i)
  nums : w.heap[N]? = some (.cells cs 64 (0, 0))
  four : cs.size = 4
  at_ : ∀ j (h : j < i) (h' : j < ns.length), cs[j]? = some (.int .i64 ns[j])
  places : w.heap[N + 1]? = some (.cells ds 64 (0, 0))
  four' : ds.size = 4
  blk : w.heap[R]? = some (.cells #[.bool false, .int .i64 0, .int .i64 0, .slice none 0 0, .slice none 0 0] 43 (0, 0))
  bel : Below R W w
  low : g + 2 < N

theorem arr_cell {w : World} {N : Nat} {cs : Array Value} {t : TypeId} (h : w.heap[N]? = some (.cells cs t (0, 0))) (i : Nat) : w.cell? ⟨N, i, none⟩ = cs[i]? ∧ w.frozen? ⟨N, i, none⟩ = false := by
  refine ⟨by simp [World.cell?, h], by simp [World.frozen?, h]⟩

theorem arr_get {cs : Array Value} {i : Nat} (h : i < cs.size) : ∃ x, cs[i]? = some x := ⟨cs[i], Array.getElem?_eq_getElem h⟩

/-- A word was cut. -/
theorem Hd.cutStep {R g N : Nat} {W w x : World} {b off cap : Nat} {t : List UInt8} {p q p' : Nat} {ws : List (List UInt8)} {ns : List Int} {i : Nat} {cs ds : Array Value} (h : Hd R g N W w b off cap t p q ws ns i cs ds)
    (hg : w.grownBy x (some (g + 1))) :
    x.heap[N]? = some (.cells cs 64 (0, 0)) ∧ x.heap[N + 1]? = some (.cells ds 64 (0, 0)) ∧ x.heap[R]? = some (.cells #[.bool false, .int .i64 0, .int .i64 0, .slice none 0 0, .slice none 0 0] 43 (0, 0)) ∧ Below R W x := by
  have hl := h.low
  have hb := h.cut.low
  refine ⟨?_, ?_, ?_, ?_⟩
  · rw [hg.block N (lt_of_block h.nums) (by simp; omega)]; exact h.nums
  · rw [hg.block (N + 1) (lt_of_block h.places) (by simp; omega)]; exact h.places
  · rw [hg.block R (lt_of_block h.blk) (by simp; omega)]; exact h.blk
  · exact h.bel.grown hg (Nat.le_of_lt (lt_of_block h.blk)) (fun k hk => by simp at hk; omega)

theorem Cut.setOther {B g : Nat} {w : World} {a : Option Addr} {cap : Nat} {t : List UInt8} {p q : Nat} (h : Cut B g w a cap t p q) {N i : Nat} {v : Value} (hN : g + 2 < N) : Cut B g (w.setCell ⟨N, i, none⟩ v) a cap t p q := by
  have hl := h.low
  refine ⟨?_, ?_, ?_, ?_, h.low, h.le, h.len, h.most, h.capy⟩
  · rw [set_other (by omega)]; exact h.text
  · rw [set_other (by omega)]; exact h.here
  · rw [set_other (by omega)]; exact h.stop
  · exact h.txt.below ((Below.refl _ _).setCell (by show B ≤ N; omega) _)

/-- A word's number and place are stored. -/
theorem Hd.store {R g N : Nat} {W x : World} {b off cap : Nat} {t : List UInt8} {p' q : Nat} {ws : List (List UInt8)} {ns : List Int} {i : Nat} {cs ds : Array Value} {n y : Int}
    (hc : Cut R g x (some ⟨b, off, none⟩) cap t p' q) (hw : Wds (rest t p' q) (ws.drop (i + 1))) (h1 : x.heap[N]? = some (.cells cs 64 (0, 0))) (h4 : cs.size = 4) (hat : ∀ j (h : j < i) (h' : j < ns.length), cs[j]? = some (.int .i64 ns[j]))
    (h2 : x.heap[N + 1]? = some (.cells ds 64 (0, 0))) (h5 : ds.size = 4) (h3 : x.heap[R]? = some (.cells #[.bool false, .int .i64 0, .int .i64 0, .slice none 0 0, .slice none 0 0] 43 (0, 0))) (hb : Below R W x) (hN : g + 2 < N) (hi : i < 4) (hl : i < ns.length) (hn : n = ns[i]) :
    Hd R g N W ((x.setCell ⟨N, i, none⟩ (.int .i64 n)).setCell ⟨N + 1, i, none⟩ (.int .i64 y)) b off cap t p' q ws ns (i + 1) (cs.setIfInBounds i (.int .i64 n)) (ds.setIfInBounds i (.int .i64 y)) := by
  have hgR := hc.low
  refine ⟨(hc.setOther hN).setOther (by omega), hw, ?_, by simpa using h4, ?_, ?_, by simpa using h5, ?_, ?_, hN⟩
  · rw [set_other (by omega)]; exact hd_set h1
  · intro j hj hj'
    by_cases e : j = i
    · subst e
      rw [Array.getElem?_setIfInBounds_self_of_lt (by omega), hn]
    · rw [Array.getElem?_setIfInBounds_ne (by omega)]
      exact hat j (by omega) hj'
  · exact hd_set ((set_other (by omega)).trans h2)
  · rw [set_other (by omega), set_other (by omega)]; exact h3
  · exact Below.setCell (Below.setCell hb (by show R ≤ N; omega) _) (by show R ≤ N + 1; omega) _

set_option maxHeartbeats 4000000 in
theorem readHead_any (R g : Nat) (w : World) (b off cap : Nat) (t : List UInt8) (p q : Nat) (i0 : Int) (hC : Cut R g w (some ⟨b, off, none⟩) cap t p q) (hRg : R < g) (v k : List UInt8) (hw : Wds (rest t p q) (headWs v k))
    (hblk : w.heap[R]? = some (.cells #[.bool false, .int .i64 0, .int .i64 0, .slice none 0 0, .slice none 0 0] 43 (0, 0)))
    (h1 : numB v = true) (h2 : 0 ≤ numV v) (h2' : numV v ≤ 1048576) (h3 : numB k = true) (h4 : 0 ≤ numV k) (h4' : numV k ≤ 262144) (hv : v.length ≤ maxLen) (hk : k.length ≤ maxLen) :
    Calls Tryd.prog 28 #[.pointer (some ⟨R, 0, none⟩), cutV g, .int .i64 i0] w fun e w' =>
      e = .returned (.tuple #[.int .i64 0, .int .i64 0]) ∧ w'.heap[R]? = some (.cells #[.bool true, .int .i64 (numV v), .int .i64 (numV k), .slice none 0 0, .slice none 0 0] 43 (0, 0)) ∧ Below R w w' := by
  have HW := hide (fun w i hi u n hu hn => headWord_any w v k h1 h2 h3 h4 hv hk i hi u n hu hn)
  have hns : (headNs v k)[2]? = some (numV v) ∧ (headNs v k)[3]? = some (numV k) := ⟨rfl, rfl⟩
  have hnl : (headNs v k).length = 4 := rfl
  have hwl : (headWs v k).length = 4 := rfl
  have HNL := hide hnl
  have HWL := hide hwl
  have HNS := hide hns
  generalize headWs v k = ws at *
  generalize headNs v k = ns at *
  generalize numV v = nv at *
  generalize numV k = nk at *
  have hH0 : Hd R g w.heap.size w ((w.alloc (.cells #[.int .i64 0, .int .i64 0, .int .i64 0, .int .i64 0] 64)).alloc (.cells #[.int .i64 0, .int .i64 0, .int .i64 0, .int .i64 0] 64)) b off cap t p q ws ns 0 #[.int .i64 0, .int .i64 0, .int .i64 0, .int .i64 0] #[.int .i64 0, .int .i64 0, .int .i64 0, .int .i64 0] := by
    have hR := lt_of_block hblk
    have hg2 := lt_of_block hC.stop
    have hbb := below_two w (.cells #[.int .i64 0, .int .i64 0, .int .i64 0, .int .i64 0] 64) (.cells #[.int .i64 0, .int .i64 0, .int .i64 0, .int .i64 0] 64)
    refine ⟨⟨?_, ?_, ?_, hC.txt.below (hbb.mono (by omega)), hC.low, hC.le, hC.len, hC.most, hC.capy⟩, hw, ?_, rfl, fun j h => by omega, ?_, rfl, ?_, hbb.mono (by omega), by omega⟩
    · rw [hbb.block _ (by omega)]; exact hC.text
    · rw [hbb.block _ (by omega)]; exact hC.here
    · rw [hbb.block _ (by omega)]; exact hC.stop
    · rw [(below_alloc _ _).block _ (by simp)]; exact heap_alloc_new w _
    · have := heap_alloc_new (w.alloc (.cells #[.int .i64 0, .int .i64 0, .int .i64 0, .int .i64 0] 64)) (.cells #[.int .i64 0, .int .i64 0, .int .i64 0, .int .i64 0] 64)
      rw [size_alloc] at this
      exact this
    · rw [hbb.block _ (by omega)]; exact hblk
  have HH0 := hide hH0
  clear hH0 hw hC hblk hns hnl hwl h1 h3 hv hk
  generalize hN : w.heap.size = N at *
  unfold cutV
  go_enter Tryd.func28, Tryd.ntmps28
  go_wp2
  go_loopw [19] (fun z wr => ∃ (i p' : Nat) (cs ds : Array Value), i ≤ 4 ∧ z = .int .i64 (i : Int) ∧ Hd R g N w wr b off cap t p' q ws ns i cs ds) (fun z _ => 4 - (intOf z).toNat)
  case atStart => exact ⟨0, p, _, _, by omega, rfl, HH0.out⟩
  case round =>
    obtain ⟨i, p', cs, ds, hi4, rfl, hH⟩ := hrel
    have HH := hide hH
    by_cases hlt : i < 4
    · have hcd := List.drop_eq_getElem_cons (l := ws) (i := i) (by have := HWL.out; omega)
      have hwd := hH.wds
      rw [hcd] at hwd
      have CN := next_wds R g wr b off cap t p' q hH.cut _ _ hwd
      have hu := List.getElem?_eq_getElem (l := ws) (i := i) (by have := HWL.out; omega)
      have hn := List.getElem?_eq_getElem (l := ns) (i := i) (by have := HNL.out; omega)
      have HHW := hide (fun w => HW.out w i hlt _ _ hu hn)
      have HNN : Hid (∃ h : i < ns.length, ns[i] = ns[i]'h) := ⟨by have := HNL.out; omega, rfl⟩
      generalize ws[i]'(by have := HWL.out; omega) = u at *
      generalize hni : ns[i]'(by have := HNL.out; omega) = n at *
      have CN2 : Calls Tryd.prog 35 #[.pointer (some ⟨g + 1, 0, none⟩), .pointer (some ⟨g + 2, 0, none⟩), .pointer (some ⟨g, 0, none⟩)] wr fun e w' =>
          ∃ (y : Int) (p2 : Nat), e = .returned (.tuple #[.string (str u), .int .i64 y, .bool true]) ∧ Hid (Hd R g N w ((w'.setCell ⟨N, i, none⟩ (.int .i64 n)).setCell ⟨N + 1, i, none⟩ (.int .i64 y)) b off cap t p2 q ws ns (i + 1) (cs.setIfInBounds i (.int .i64 n)) (ds.setIfInBounds i (.int .i64 y))) ∧
            (∃ x, w'.cell? ⟨N, i, none⟩ = some x) ∧ w'.frozen? ⟨N, i, none⟩ = false ∧ (∃ x, (w'.setCell ⟨N, i, none⟩ (.int .i64 n)).cell? ⟨N + 1, i, none⟩ = some x) ∧ (w'.setCell ⟨N, i, none⟩ (.int .i64 n)).frozen? ⟨N + 1, i, none⟩ = false := by
        refine CN.mono ?_
        rintro e x ⟨y, p2, he, hg, hc, hw2, -⟩
        obtain ⟨j1, j2, j3, j4⟩ := hH.cutStep hg (p' := p2)
        have k1 := arr_cell j1 i
        have k2 := arr_cell (show (x.setCell ⟨N, i, none⟩ (.int .i64 n)).heap[N + 1]? = some (.cells ds 64 (0, 0)) from (set_other (by omega)).trans j2) i
        refine ⟨y, p2, he, Hd.store hc hw2 j1 hH.four hH.at_ j2 hH.four' j3 j4 hH.low hlt (by have := HNL.out; omega) hni.symm, ?_, k1.2, ?_, k2.2⟩
        · rw [k1.1]; exact arr_get (by rw [hH.four]; exact hlt)
        · rw [k2.1]; exact arr_get (by rw [hH.four']; exact hlt)
      replace CN2 := hide CN2
      have hlt' : (i : Int) < 4 := by omega
      clear hH hcd hwd CN hu hn HNN hni
      go_wp2_with (first
        | (go_at_call 35; refine (unhide CN2).mono ?_; rintro e w1 ⟨y, p2, rfl, hHd, ⟨x1, hx1⟩, hx2, ⟨x3, hx3⟩, hx4⟩)
        | (go_at_call 37; refine (unhide HHW _).mono ?_; rintro e w0 ⟨rfl, hw0⟩; subst w0))
      go_roundw
      case rel => exact ⟨i + 1, p2, _, _, by omega, by go_num, hHd.out⟩
      case measure => simp [intOf]; omega
    · have h4i : i = 4 := by omega
      subst h4i
      have hwd := hH.wds
      rw [List.drop_eq_nil_of_le (by have := HWL.out; omega)] at hwd
      have CN := next_none R g wr b off cap t p' q hH.cut hwd
      have hc2 : cs[2]? = some (.int .i64 nv) := by
        have h := HNS.out.1
        have hl : 2 < ns.length := by have := HNL.out; omega
        rw [hH.at_ 2 (by omega) hl]
        rw [List.getElem?_eq_getElem hl] at h
        rw [Option.some.inj h]
      have hc3 : cs[3]? = some (.int .i64 nk) := by
        have h := HNS.out.2
        have hl : 3 < ns.length := by have := HNL.out; omega
        rw [hH.at_ 3 (by omega) hl]
        rw [List.getElem?_eq_getElem hl] at h
        rw [Option.some.inj h]
      have CN2 : Calls Tryd.prog 35 #[.pointer (some ⟨g + 1, 0, none⟩), .pointer (some ⟨g + 2, 0, none⟩), .pointer (some ⟨g, 0, none⟩)] wr fun e w' =>
          ∃ (y : Int), e = .returned (.tuple #[.string (str []), .int .i64 y, .bool false]) ∧ w'.cell? ⟨N, 2, none⟩ = some (.int .i64 nv) ∧ w'.cell? ⟨N, 3, none⟩ = some (.int .i64 nk) ∧
            Hid (w'.heap[R]? = some (.cells #[.bool false, .int .i64 0, .int .i64 0, .slice none 0 0, .slice none 0 0] 43 (0, 0))) ∧ Hid (Below R w w') := by
        refine CN.mono ?_
        rintro e x ⟨y, p2, he, hg, hc, -⟩
        obtain ⟨j1, j2, j3, j4⟩ := hH.cutStep hg (p' := p2)
        exact ⟨y, he, by rw [(arr_cell j1 2).1]; exact hc2, by rw [(arr_cell j1 3).1]; exact hc3, j3, j4⟩
      replace CN2 := hide CN2
      have hRN : R < N := by have := hH.low; omega
      clear hH hwd CN hc2 hc3 HH hlt
      go_wp2_with (go_at_call 35; refine (unhide CN2).mono ?_; rintro e w1 ⟨y, rfl, hx2, hx3, HB, HBE⟩)
      obtain ⟨u0, u1, u2, u3, u4, u5, u6, u7, u8, u9⟩ := rd_cells HB.out
      have hne : ¬ N = R := by omega
      have hne' : ¬ R = N := by omega
      go_region
      go_wp2
      go_ret2
      refine ⟨rfl, hd_set (hd_set (hd_set HB.out)), ?_⟩
      exact Below.setCell (Below.setCell (Below.setCell (show Below R w (w1.drewN _) from below_drewN HBE.out _) (Nat.le_refl _) _) (Nat.le_refl _) _) (Nat.le_refl _) _

end Go.Proofs.YtedpngipkaniaaaDoor
