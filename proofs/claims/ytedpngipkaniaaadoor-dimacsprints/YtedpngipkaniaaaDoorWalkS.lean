/- Contracts: a function that knows a line; where a line ends. -/
import Derived.Test.YtedpngipkaniaaaDoorWalkR
set_option linter.unusedVariables false
set_option linter.unusedSimpArgs false
namespace Go.Proofs.YtedpngipkaniaaaDoor
open Go.RowKit

/-- The value of a function that knows a line. -/
def cutV (g : Nat) : Value := .func (.func 35) #[] #[.pointer (some ⟨g + 1, 0, none⟩), .pointer (some ⟨g + 2, 0, none⟩), .pointer (some ⟨g, 0, none⟩)]

theorem cut_new {B : Nat} {w : World} {a : Option Addr} {cap : Nat} {t : List UInt8} {p q : Nat} (ht : Txt B w a t) (hB : B ≤ w.heap.size) (hp : p ≤ q) (hq : q ≤ t.length) (hm : t.length ≤ 4194304) (hc : t.length ≤ cap) :
    Cut B w.heap.size (((w.alloc (.cells #[.slice a t.length cap] 27)).alloc (.cells #[.int .i64 (p : Int)] 3)).alloc (.cells #[.int .i64 (q : Int)] 3)) a cap t p q ∧
    Below w.heap.size w (((w.alloc (.cells #[.slice a t.length cap] 27)).alloc (.cells #[.int .i64 (p : Int)] 3)).alloc (.cells #[.int .i64 (q : Int)] 3)) := by
  have hb : Below w.heap.size w (((w.alloc (.cells #[.slice a t.length cap] 27)).alloc (.cells #[.int .i64 (p : Int)] 3)).alloc (.cells #[.int .i64 (q : Int)] 3)) :=
    (((Below.refl _ _).alloc (Nat.le_refl _) _).alloc (by simp) _).alloc (by simp; omega) _
  refine ⟨⟨?_, ?_, ?_, ht.below (hb.mono hB), hB, hp, hq, hm, hc⟩, hb⟩
  · rw [(below_alloc _ _).block _ (by simp; omega), (below_alloc _ _).block _ (by simp)]
    exact heap_alloc_new w _
  · rw [(below_alloc _ _).block _ (by simp)]
    have := heap_alloc_new (w.alloc (.cells #[.slice a t.length cap] 27)) (.cells #[.int .i64 (p : Int)] 3)
    rw [size_alloc] at this
    exact this
  · have := heap_alloc_new ((w.alloc (.cells #[.slice a t.length cap] 27)).alloc (.cells #[.int .i64 (p : Int)] 3)) (.cells #[.int .i64 (q : Int)] 3)
    rw [size_alloc, size_alloc] at this
    exact this

set_option maxHeartbeats 400000 in
theorem cutter_any (B : Nat) (w : World) (a : Option Addr) (cap : Nat) (t : List UInt8) (p q : Nat) (ht : Txt B w a t) (hB : B ≤ w.heap.size) (hp : p ≤ q) (hq : q ≤ t.length) (hm : t.length ≤ 4194304) (hc : t.length ≤ cap) :
    Calls Tryd.prog 27 #[.slice a t.length cap, .int .i64 (p : Int), .int .i64 (q : Int)] w fun e w' =>
      e = .returned (cutV w.heap.size) ∧ Cut B w.heap.size w' a cap t p q ∧ Below w.heap.size w w' := by
  have H := hide (cut_new ht hB hp hq hm hc)
  clear ht hB hp hq hm hc
  go_enter Tryd.func27, Tryd.ntmps27
  go_wp2
  go_ret
  exact ⟨rfl, H.out⟩

theorem ret_two {a a' b b' : Int} (h : a = a') (g : b = b') : Ending.returned (.tuple #[.int .i64 a, .int .i64 b]) = .returned (.tuple #[.int .i64 a', .int .i64 b']) := by rw [h, g]

theorem indexByte_at {l rest : List UInt8} (h : ∀ c ∈ l, c ≠ 10) : Lib.indexByte (l ++ 10 :: rest) 10 = l.length := by
  induction l with
  | nil => rfl
  | cons c l ih =>
    have h1 := h c (by simp)
    have h2 := ih (fun c hc => h c (by simp [hc]))
    simp only [List.cons_append, Lib.indexByte]
    rw [if_neg (by simpa using h1), h2, if_neg (by simp)]
    simp

theorem indexByte_no {l : List UInt8} (h : ∀ c ∈ l, c ≠ 10) : Lib.indexByte l 10 = -1 := by
  induction l with
  | nil => rfl
  | cons c l ih =>
    have h1 := h c (by simp)
    have h2 := ih (fun c hc => h c (by simp [hc]))
    simp only [Lib.indexByte]
    rw [if_neg (by simpa using h1), h2]
    simp

set_option maxHeartbeats 1000000 in
set_option maxRecDepth 100000 in
theorem indexByte_any (B : Nat) (w : World) (b off : Nat) (n cap : Nat) (u : List UInt8) (hn : u.length = n) (ht : Txt B w (some ⟨b, off, none⟩) u) :
    Calls Tryd.prog 26 #[.slice (some ⟨b, off, none⟩) n cap, .int .u8 10] w fun e w' => e = .returned (.int .i64 (Lib.indexByte u 10)) ∧ w' = w := by
  have hrun := Lib.run_indexByteSlice (P := Tryd.prog) w b off n cap (u.map fun c => (c.toNat : Int)) (by simpa using hn) (fun i hi => by
    obtain ⟨b', off', e, _, hc⟩ := ht i (by omega)
    simp at e
    obtain ⟨rfl, rfl⟩ := e
    rw [hc]
    have : i < u.length := by omega
    simp [List.getD_eq_getElem?_getD, List.getElem?_map, List.getElem?_eq_getElem this]) 10
  have hbo : Lib.bytesOf (u.map fun c => (c.toNat : Int)) = u := by
    simp [Lib.bytesOf, List.map_map, Function.comp_def]
  rw [hbo] at hrun
  have hch : (Int.toNat 10).toUInt8 = (10 : UInt8) := rfl
  rw [hch] at hrun
  have HR := hide hrun
  clear hrun hbo hch ht
  go_enter Tryd.func26, Tryd.ntmps26
  go_wp2
  rw [run_callFunc_extern Tryd.func34 (by kernel_rfl) (by kernel_rfl) (by kernel_rfl) (e := Extern.BytealgIndexByte.indexByte) (by kernel_rfl), HR.out]
  simp only [Result.andThen]
  rw [Oper.upon_value]
  go_wp2
  go_ret
  exact ⟨rfl, rfl⟩

theorem Txt.drop {B : Nat} {w : World} {b off : Nat} {t : List UInt8} (h : Txt B w (some ⟨b, off, none⟩) t) (p : Nat) : Txt B w (some ⟨b, off + p, none⟩) (t.drop p) := by
  intro i hi
  have hi' : p + i < t.length := by simp at hi; omega
  obtain ⟨b', off', e, hlt, hc⟩ := h (p + i) hi'
  simp at e
  obtain ⟨rfl, rfl⟩ := e
  refine ⟨b, off + p, rfl, hlt, ?_⟩
  rw [Nat.add_assoc, hc, List.getElem_drop]

theorem cutCR_len (l : List UInt8) : (0 < l.length → (l.getLast? = some 13 ↔ l[l.length - 1]? = some 13)) ∧ ((cutCR l).length = if l.getLast? = some 13 then l.length - 1 else l.length) := by
  refine ⟨fun h => by rw [List.getLast?_eq_getElem?], ?_⟩
  unfold cutCR
  split <;> simp

theorem drop_len {t l rest : List UInt8} {p : Nat} (h : t.drop p = l ++ 10 :: rest) : t.length = p + l.length + 1 + rest.length := by
  have := congrArg List.length h
  simp at this
  omega

theorem u8_13 (c : UInt8) : ((c.toNat : Int) = 13) ↔ c = 13 := by
  constructor
  · intro h; apply UInt8.toNat_inj.1; simp; omega
  · intro h; subst h; rfl

set_option maxHeartbeats 2000000 in
theorem lineEnd_lf (B : Nat) (w : World) (b off cap : Nat) (t : List UInt8) (p : Nat) (l rest : List UInt8) (ht : Txt B w (some ⟨b, off, none⟩) t) (hd : t.drop p = l ++ 10 :: rest) (hl : ∀ c ∈ l, c ≠ 10) (hm : t.length ≤ 4194304) (hc : t.length ≤ cap) :
    Calls Tryd.prog 18 #[.slice (some ⟨b, off, none⟩) t.length cap, .int .i64 (p : Int)] w fun e w' => e = .returned (.tuple #[.int .i64 ((p + (cutCR l).length : Nat) : Int), .int .i64 ((p + l.length + 1 : Nat) : Int)]) ∧ w' = w := by
  have htl : p + l.length + 1 ≤ t.length := by have := drop_len hd; omega
  have C := fun cp => indexByte_any B w b (off + p) (t.length - p) cp (t.drop p) (by simp) (ht.drop p)
  rw [hd, indexByte_at hl] at C
  replace C := hide C
  obtain ⟨h1, h2⟩ := cutCR_len l
  by_cases h0 : 0 < l.length
  · have hg : t[p + (l.length - 1)]? = l[l.length - 1]? := by
      have := congrArg (fun x => x[l.length - 1]?) hd
      simp only [List.getElem?_drop] at this
      rw [this, List.getElem?_append_left (by omega)]
    have hge := List.getElem?_eq_getElem (l := l) (i := l.length - 1) (by omega)
    rw [hge] at hg
    have hcell := ht.at hg
    have e1 : off + (p + (l.length - 1)) = off + (p + l.length - 1) := by omega
    rw [e1] at hcell
    by_cases hr : l[l.length - 1] = 13
    · have H2 : Hid ((cutCR l).length = l.length - 1) := by show _ = _; rw [h2, if_pos ((h1 h0).2 (by rw [hge, hr]))]
      rw [hr] at hcell
      clear h1 h2 hg hge hd ht hr e1
      generalize (cutCR l).length = m at *
      go_enter Tryd.func18, Tryd.ntmps18
      go_wp2_with (go_at_call 26; refine (unhide C _).mono ?_; rintro e w0 ⟨rfl, hw0⟩; subst w0)
      go_ret2
      exact ⟨ret_two (by rw [H2.out]; omega) (by omega), rfl⟩
    · have H2 : Hid ((cutCR l).length = l.length) := by show _ = _; rw [h2, if_neg (fun e => hr (by have := (h1 h0).1 e; rw [hge] at this; exact Option.some.inj this))]
      have hr' : ¬ ((l[l.length - 1].toNat : Int) = 13) := fun e => hr ((u8_13 _).1 e)
      generalize (cutCR l).length = m at *
      generalize l[l.length - 1] = c at *
      clear h1 h2 hg hge hd ht e1 hr
      go_enter Tryd.func18, Tryd.ntmps18
      go_wp2_with (go_at_call 26; refine (unhide C _).mono ?_; rintro e w0 ⟨rfl, hw0⟩; subst w0)
      go_ret2
      exact ⟨ret_two (by rw [H2.out]; omega) (by omega), rfl⟩
  · have hl0 : l = [] := by simpa using h0
    subst hl0
    clear h1 h2 hd ht
    have H2 : Hid ((cutCR []).length = 0) := rfl
    generalize (cutCR []).length = m at *
    simp only [List.length_nil, Nat.add_zero] at htl
    replace C := C.out
    simp only [List.length_nil] at C
    replace C := hide C
    simp only [List.length_nil]
    go_enter Tryd.func18, Tryd.ntmps18
    go_wp2_with (go_at_call 26; refine (unhide C _).mono ?_; rintro e w0 ⟨rfl, hw0⟩; subst w0)
    go_ret2
    exact ⟨ret_two (by rw [H2.out]; omega) (by omega), rfl⟩

set_option maxHeartbeats 1000000 in
theorem lineEnd_no (B : Nat) (w : World) (b off cap : Nat) (t : List UInt8) (p : Nat) (hp : p < t.length) (ht : Txt B w (some ⟨b, off, none⟩) t) (hl : ∀ c ∈ t.drop p, c ≠ 10) (hm : t.length ≤ 4194304) (hc : t.length ≤ cap) :
    Calls Tryd.prog 18 #[.slice (some ⟨b, off, none⟩) t.length cap, .int .i64 (p : Int)] w fun e w' => e = .returned (.tuple #[.int .i64 (t.length : Int), .int .i64 (t.length : Int)]) ∧ w' = w := by
  have C := fun cp => indexByte_any B w b (off + p) (t.length - p) cp (t.drop p) (by simp) (ht.drop p)
  rw [indexByte_no hl] at C
  replace C := hide C
  clear ht hl
  go_enter Tryd.func18, Tryd.ntmps18
  go_wp2_with (go_at_call 26; refine (unhide C _).mono ?_; rintro e w0 ⟨rfl, hw0⟩; subst w0)
  go_ret2
  exact ⟨rfl, rfl⟩

end Go.Proofs.YtedpngipkaniaaaDoor
