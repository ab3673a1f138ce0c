/- The document's arena as it lies in memory: a list of clauses, and the contracts of the functions that read it. -/
import Derived.Test.YtbibbdkijgaoeaaWalkF
set_option linter.unusedVariables false
set_option linter.unusedSimpArgs false
namespace Go.Proofs.Ytbibbdkijgaoeaa
open Go.RowKit Go.Maps

/-- Numbers in memory, in blocks of which F holds. -/
def RowF (F : Nat → Prop) (w : World) (a : Option Addr) (xs : List Int) : Prop :=
  ∀ i (h : i < xs.length), ∃ b off, a = some ⟨b, off, none⟩ ∧ b < w.heap.size ∧ F b ∧ w.cell? ⟨b, off + i, none⟩ = some (.int .i64 xs[i])

theorem RowF.row {F : Nat → Prop} {w : World} {a : Option Addr} {xs : List Int} (h : RowF F w a xs) : Row w a xs := fun i hi => by
  obtain ⟨b, off, h1, h2, _, h4⟩ := h i hi; exact ⟨b, off, h1, h2, h4⟩

/-- A clause's value. -/
def Cl (F : Nat → Prop) (w : World) (v : Value) (c : List Int) : Prop := ∃ ai ci, v = .slice ai c.length ci ∧ RowF F w ai c ∧ (ai = none → ci = 0)

/-- The cells of a list of clauses. -/
def ItC (F : Nat → Prop) (w : World) : List Value → List Itm → Prop
  | [], [] => True
  | v :: g :: r, it :: L => (Cl F w v it.1 ∧ g = .bool it.2) ∧ ItC F w r L
  | _, _ => False

/-- A list of clauses behind a slice. -/
def Ref (F : Nat → Prop) (w : World) (a : Option Addr) (cap : Nat) (L : List Itm) : Prop :=
  ∃ cells, ItC F w cells L ∧ ((a = none ∧ L = [] ∧ cap = 0) ∨ ∃ b off, a = some ⟨b, off, none⟩ ∧ b < w.heap.size ∧ F b ∧ ∀ j u, cells[j]? = some u → w.cell? ⟨b, off + j, none⟩ = some u)

section
variable {F : Nat → Prop} {w w' : World}

theorem ItC.len : ∀ {cells : List Value} {L : List Itm}, ItC F w cells L → cells.length = 2 * L.length
  | [], [], _ => rfl
  | v :: g :: r, it :: L, h => by have := ItC.len h.2; simp only [List.length_cons]; omega
  | [], _ :: _, h => h.elim
  | [_], _, h => by cases ‹List Itm› <;> exact h.elim
  | _ :: _ :: _, [], h => h.elim

theorem ItC.get : ∀ {cells : List Value} {L : List Itm}, ItC F w cells L → ∀ i (h : i < L.length), ∃ v, cells[i * 2]? = some v ∧ Cl F w v L[i].1 ∧ cells[i * 2 + 1]? = some (.bool L[i].2)
  | [], [], _, i, hi => by simp at hi
  | v :: g :: r, it :: L, h, 0, _ => ⟨v, rfl, h.1.1, by simp [h.1.2]⟩
  | v :: g :: r, it :: L, h, i + 1, hi => by
    obtain ⟨u, h1, h2, h3⟩ := ItC.get h.2 i (by simpa using hi)
    refine ⟨u, ?_, h2, ?_⟩
    · rw [show (i + 1) * 2 = i * 2 + 1 + 1 by omega]; simpa using h1
    · rw [show (i + 1) * 2 + 1 = i * 2 + 1 + 1 + 1 by omega]; simpa using h3
  | [], _ :: _, h, _, _ => h.elim
  | [_], _, h, _, _ => by cases ‹List Itm› <;> exact h.elim
  | _ :: _ :: _, [], h, _, _ => h.elim

theorem RowF.kept {F' : Nat → Prop} {a : Option Addr} {xs : List Int} (h : RowF F w a xs) (hk : ∀ k, k < w.heap.size → F k → w'.heap[k]? = w.heap[k]? ∧ F' k) (hs : w.heap.size ≤ w'.heap.size) : RowF F' w' a xs := fun i hi => by
  obtain ⟨b, off, h1, h2, h3, h4⟩ := h i hi
  obtain ⟨k1, k2⟩ := hk b h2 h3
  exact ⟨b, off, h1, by omega, k2, by rw [World.cell?_of_block k1]; exact h4⟩

theorem Cl.kept {F' : Nat → Prop} {v : Value} {c : List Int} (h : Cl F w v c) (hk : ∀ k, k < w.heap.size → F k → w'.heap[k]? = w.heap[k]? ∧ F' k) (hs : w.heap.size ≤ w'.heap.size) : Cl F' w' v c := by
  obtain ⟨ai, ci, h1, h2, h3⟩ := h
  exact ⟨ai, ci, h1, h2.kept hk hs, h3⟩

theorem ItC.kept {F' : Nat → Prop} (hk : ∀ k, k < w.heap.size → F k → w'.heap[k]? = w.heap[k]? ∧ F' k) (hs : w.heap.size ≤ w'.heap.size) : ∀ {cells : List Value} {L : List Itm}, ItC F w cells L → ItC F' w' cells L
  | [], [], _ => trivial
  | v :: g :: r, it :: L, h => ⟨⟨h.1.1.kept hk hs, h.1.2⟩, ItC.kept hk hs h.2⟩
  | [], _ :: _, h => h.elim
  | [_], _, h => by cases ‹List Itm› <;> exact h.elim
  | _ :: _ :: _, [], h => h.elim

theorem Ref.kept {F' : Nat → Prop} {a : Option Addr} {cap : Nat} {L : List Itm} (h : Ref F w a cap L) (hk : ∀ k, k < w.heap.size → F k → w'.heap[k]? = w.heap[k]? ∧ F' k) (hs : w.heap.size ≤ w'.heap.size) : Ref F' w' a cap L := by
  obtain ⟨cells, h1, h2⟩ := h
  refine ⟨cells, h1.kept hk hs, ?_⟩
  rcases h2 with h2 | ⟨b, off, e, hb, hF, hc⟩
  · exact .inl h2
  · obtain ⟨k1, k2⟩ := hk b hb hF
    exact .inr ⟨b, off, e, by omega, k2, fun j u hu => by rw [World.cell?_of_block k1]; exact hc j u hu⟩

theorem Ref.below {a : Option Addr} {cap : Nat} {L : List Itm} (h : Ref F w a cap L) (hb : Below w.heap.size w w') : Ref F w' a cap L := h.kept (fun k hk hF => ⟨hb.block k hk, hF⟩) hb.size
theorem Ref.alloc {a : Option Addr} {cap : Nat} {L : List Itm} (h : Ref F w a cap L) (o : Obj) : Ref F (w.alloc o) a cap L := h.below ((Below.refl _ _).alloc (Nat.le_refl _) o)

/-- The clause at an index. -/
theorem Ref.at {a : Option Addr} {cap : Nat} {L : List Itm} (h : Ref F w a cap L) (i : Nat) (hi : i < L.length) : ∃ b off ai ci, a = some ⟨b, off, none⟩ ∧ b < w.heap.size ∧ w.cell? ⟨b, off + i * 2, none⟩ = some (.slice ai L[i].1.length ci) ∧ w.cell? ⟨b, off + i * 2 + 1, none⟩ = some (.bool L[i].2) ∧ RowF F w ai L[i].1 ∧ (ai = none → ci = 0) := by
  obtain ⟨cells, h1, h2⟩ := h
  obtain ⟨v, g1, ⟨ai, ci, rfl, g2, g3⟩, g4⟩ := h1.get i hi
  rcases h2 with ⟨_, rfl, _⟩ | ⟨b, off, e, hb, hF, hc⟩
  · simp at hi
  · exact ⟨b, off, ai, ci, e, hb, hc _ _ g1, by rw [Nat.add_assoc]; exact hc _ _ g4, g2, g3⟩
end

set_option maxHeartbeats 800000 in
theorem refWords_any (F : Nat → Prop) (w : World) (a : Option Addr) (cap : Nat) (L : List Itm) (hR : Ref F w a cap L) (hl : words L ≤ 20000) :
    Calls Try.prog 27 #[.agg #[.slice a L.length cap]] w fun e w' => e = .returned (.int .i64 (words L)) ∧ w' = w.alloc (.cells #[.slice a L.length cap] 28) := by
  have hlw := len_le_words L
  go_enter Try.func27, Try.ntmps27
  go_wp2
  go_loop [3, 4] (fun n i => ∃ k : Nat, k ≤ L.length ∧ i = .int .i64 k ∧ n = .int .i64 (words (L.take k))) (fun _ i => L.length - (intOf i).toNat)
  case atStart => exact ⟨0, Nat.zero_le _, rfl, rfl⟩
  case round =>
    obtain ⟨k, hk, rfl, rfl⟩ := hrel
    by_cases hlt : k < L.length
    · obtain ⟨b, off, ai, ci, rfl, hb, h1, h2, h3, h4⟩ := hR.at k hlt
      have HT := hide (words_take_succ hlt)
      have hwt := words_take_le L (k + 1)
      have hwt0 := words_take_le L k
      have hle : L[k].1.length ≤ 20000 := by have := HT.out; omega
      clear hR h3 h4
      go_wp2
      go_round
      case rel => exact ⟨k + 1, by omega, by go_num, by rw [HT.out]; go_num⟩
      case measure => simp [intOf]; omega
    · have hke : L.take k = L := List.take_of_length_le (by omega)
      rw [hke] at *
      clear hR
      go_wp2
      go_ret
      exact ⟨rfl, rfl⟩

set_option maxHeartbeats 800000 in
theorem refWaste_any (F : Nat → Prop) (w : World) (a : Option Addr) (cap : Nat) (L : List Itm) (hR : Ref F w a cap L) (hl : words L ≤ 20000) :
    Calls Try.prog 28 #[.agg #[.slice a L.length cap]] w fun e w' => e = .returned (.int .i64 (waste L)) ∧ w' = w.alloc (.cells #[.slice a L.length cap] 28) := by
  have hlw := len_le_words L
  go_enter Try.func28, Try.ntmps28
  go_wp2
  go_loop [3, 4] (fun n i => ∃ k : Nat, k ≤ L.length ∧ i = .int .i64 k ∧ n = .int .i64 (waste (L.take k))) (fun _ i => L.length - (intOf i).toNat)
  case atStart => exact ⟨0, Nat.zero_le _, rfl, rfl⟩
  case round =>
    obtain ⟨k, hk, rfl, rfl⟩ := hrel
    by_cases hlt : k < L.length
    · obtain ⟨b, off, ai, ci, rfl, hb, h1, h2, h3, h4⟩ := hR.at k hlt
      have HT := hide (waste_take hlt)
      have hwt := waste_take_le L (k + 1)
      have hwt0 := waste_take_le L k
      have hle : L[k].1.length ≤ 20000 := by have := words_take_succ hlt; have := words_take_le L (k + 1); omega
      clear hR h3 h4
      cases hg : L[k].2
      · rw [hg] at h2 HT
        go_wp2
        go_round
        case rel => exact ⟨k + 1, by omega, by go_num, by rw [HT.out]; simp⟩
        case measure => simp [intOf]; omega
      · rw [hg] at h2 HT
        go_wp2
        go_round
        case rel => exact ⟨k + 1, by omega, by go_num, by rw [HT.out]; simp; omega⟩
        case measure => simp [intOf]; omega
    · have hke : L.take k = L := List.take_of_length_le (by omega)
      rw [hke] at *
      clear hR
      go_wp2
      go_ret
      exact ⟨rfl, rfl⟩

set_option maxHeartbeats 800000 in
theorem refAt_any (F : Nat → Prop) (w : World) (a : Option Addr) (cap : Nat) (L : List Itm) (p : Int) (hR : Ref F w a cap L) (hl : words L ≤ 20000) :
    Calls Try.prog 31 #[.agg #[.slice a L.length cap], .int .i64 p] w fun e w' => e = .returned (.int .i64 (atF 0 0 L p)) ∧ w' = w.alloc (.cells #[.slice a L.length cap] 28) := by
  have hlw := len_le_words L
  go_enter Try.func31, Try.ntmps31
  go_wp2
  go_loop [5, 6] (fun n i => ∃ k : Nat, k ≤ L.length ∧ i = .int .i64 k ∧ n = .int .i64 (words (L.take k)) ∧ atF 0 0 L p = atF (words (L.take k)) k (L.drop k) p) (fun _ i => L.length - (intOf i).toNat)
  case atStart => exact ⟨0, Nat.zero_le _, rfl, rfl, rfl⟩
  case round =>
    obtain ⟨k, hk, rfl, rfl, hat⟩ := hrel
    have HAT := hide hat
    clear hat
    by_cases hlt : k < L.length
    · obtain ⟨b, off, ai, ci, rfl, hb, h1, h2, h3, h4⟩ := hR.at k hlt
      have HT := hide (words_take_succ hlt)
      have hwt := words_take_le L (k + 1)
      have hwt0 := words_take_le L k
      have hle : L[k].1.length ≤ 20000 := by have := HT.out; omega
      clear hR h3 h4
      by_cases hp : (words (L.take k) : Int) = p
      · cases hg : L[k].2
        · have HH := hide (atF_hit hlt hp hg)
          rw [hg] at h2
          go_wp2
          go_ret
          exact ⟨ret_int (by rw [HAT.out, HH.out]), rfl⟩
        · have HH := hide (atF_miss hlt (p := p) (by simp [hg]))
          rw [hg] at h2
          go_wp2
          go_round
          case rel => exact ⟨k + 1, by omega, by go_num, by rw [HT.out]; go_num, by rw [HAT.out, HH.out]⟩
          case measure => simp [intOf]; omega
      · have HH := hide (atF_miss hlt (p := p) (fun h => hp h.1))
        go_wp2
        go_round
        case rel => exact ⟨k + 1, by omega, by go_num, by rw [HT.out]; go_num, by rw [HAT.out, HH.out]⟩
        case measure => simp [intOf]; omega
    · have hke : L.drop k = [] := List.drop_of_length_le (by omega)
      clear hR
      go_wp2
      go_ret
      exact ⟨ret_int (by rw [HAT.out, hke]; rfl), rfl⟩

end Go.Proofs.Ytbibbdkijgaoeaa
