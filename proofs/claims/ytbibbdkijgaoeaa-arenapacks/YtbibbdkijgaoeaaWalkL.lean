/- Contracts of the document's arena: the clause at a place, the places. -/
import Derived.Test.YtbibbdkijgaoeaaWalkK
import Derived.Test.YtbibbdkijgaoeaaWalkJ
set_option linter.unusedVariables false
set_option linter.unusedSimpArgs false
namespace Go.Proofs.Ytbibbdkijgaoeaa
open Go.RowKit Go.Maps

set_option maxHeartbeats 800000 in
theorem refGet_no (F : Nat → Prop) (w : World) (a : Option Addr) (cap : Nat) (L : List Itm) (p : Int) (hR : Ref F w a cap L) (hl : words L ≤ 20000) (hno : p ∉ plF 0 L) :
    Calls Try.prog 11 #[.agg #[.slice a L.length cap], .int .i64 p] w fun e w' => e = .returned (.tuple #[.slice none 0 0, .bool false]) ∧ Below w.heap.size w w' := by
  have G := hide (refAt_any F _ a cap L p (hR.alloc (.cells #[.slice a L.length cap] 28)) hl)
  rw [atF_none L 0 0 p hno] at G
  clear hR
  go_enter Try.func11, Try.ntmps11
  go_wp2_with (go_at_call 31; refine (unhide G).mono ?_; rintro e w0 ⟨rfl, hw0⟩; subst w0)
  go_ret2
  exact ⟨rfl, ((Below.refl _ _).alloc (Nat.le_refl _) _).alloc (by simp) _⟩

theorem getElem_mid (A R : List Itm) (it : Itm) (h : A.length < (A ++ it :: R).length) : (A ++ it :: R)[A.length] = it := by simp

set_option maxHeartbeats 800000 in
theorem refGet_yes (F : Nat → Prop) (w : World) (a : Option Addr) (cap : Nat) (A R : List Itm) (it : Itm) (hR : Ref F w a cap (A ++ it :: R)) (hl : words (A ++ it :: R) ≤ 20000) (hit : it.2 = false) :
    Calls Try.prog 11 #[.agg #[.slice a (A ++ it :: R).length cap], .int .i64 (words A)] w fun e w' => (∃ v, e = .returned (.tuple #[v, .bool true]) ∧ Cl F w' v it.1) ∧ Below w.heap.size w w' := by
  have G := hide (refAt_any F _ a cap _ (words A) (hR.alloc (.cells #[.slice a (A ++ it :: R).length cap] 28)) hl)
  have hat := atF_split A R it 0 0 hit
  rw [Nat.zero_add, Nat.zero_add] at hat
  rw [hat] at G
  have hlw := len_le_words (A ++ it :: R)
  have hlt : A.length < (A ++ it :: R).length := by simp
  obtain ⟨b, off, ai, ci, rfl, hb, h1, h2, h3, h4⟩ := hR.at A.length hlt
  rw [getElem_mid] at h1 h3
  have H3 := hide h3
  have H4 := hide h4
  clear hR h3 h4 h2 hat
  generalize (A ++ it :: R).length = N at *
  go_enter Try.func11, Try.ntmps11
  go_wp2_with (go_at_call 31; refine (unhide G).mono ?_; rintro e w0 ⟨rfl, hw0⟩; subst w0)
  go_ret2
  have hB : Below w.heap.size w ((w.alloc (.cells #[.slice (some ⟨b, off, none⟩) N cap] 28)).alloc (.cells #[.slice (some ⟨b, off, none⟩) N cap] 28)) := ((Below.refl _ _).alloc (Nat.le_refl _) _).alloc (by simp) _
  exact ⟨⟨_, rfl, ai, ci, rfl, H3.out.kept (fun k hk hF => ⟨hB.block k hk, hF⟩) hB.size, H4.out⟩, hB⟩

set_option maxHeartbeats 1600000 in
theorem refPlaces_any (F : Nat → Prop) (w : World) (a : Option Addr) (cap : Nat) (L : List Itm) (hR : Ref F w a cap L) (hl : words L ≤ 20000) :
    Calls Try.prog 25 #[.agg #[.slice a L.length cap]] w fun e w' => ∃ v, e = .returned v ∧ Own w.heap.size w' v (plF 0 L) ∧ Below w.heap.size w w' := by
  obtain ⟨i0, hi, hz0, hz1, hz2⟩ := info_parts Try.info3
  have hlw := len_le_words L
  have HR := hide hR
  clear hR
  go_enter Try.func25, Try.ntmps25
  go_wp2
  go_loopw [3, 4, 5] (fun v n i wr => ∃ k : Nat, k ≤ L.length ∧ i = .int .i64 k ∧ n = .int .i64 (words (L.take k)) ∧ Own (w.heap.size + 1) wr v (plF 0 (L.take k)) ∧ Below (w.heap.size + 1) (w.alloc (.cells #[.slice a L.length cap] 28)) wr) (fun _ _ i _ => L.length - (intOf i).toNat)
  case atStart =>
    refine ⟨0, Nat.zero_le _, rfl, rfl, ?_, (Below.refl _ _).alloc (by simp) _⟩
    have := World.ownsRow_lit (base := w.heap.size + 1) (e := 3) (size := 1) (w.alloc (.cells #[.slice a L.length cap] 28)) #[] 0 (by simp) (Nat.zero_le _) rfl
    simpa [Own, plF] using this
  case round =>
    obtain ⟨k, hk, rfl, rfl, hown, hbel⟩ := hrel
    have hz := hbel.size
    simp at hz
    have HB0 : Hid (∀ x, Below (w.heap.size + 1) (w.alloc (.cells #[.slice a L.length cap] 28)) x → x.cell? ⟨w.heap.size, 0, none⟩ = some (.slice a L.length cap)) := fun x hx => by
      rw [hx.cell (p := ⟨w.heap.size, 0, none⟩) (by simp)]; exact cell_of_one (heap_alloc_new w _)
    have cB := HB0.out _ hbel
    by_cases hlt : k < L.length
    · obtain ⟨b, off, ai, ci, rfl, hb, h1, h2, h3, h4⟩ := HR.out.at k hlt
      have HF : Hid (∀ x, Below (w.heap.size + 1) (w.alloc (.cells #[.slice (some ⟨b, off, none⟩) L.length cap] 28)) x → x.cell? ⟨b, off + k * 2, none⟩ = some (.slice ai L[k].1.length ci) ∧ x.cell? ⟨b, off + k * 2 + 1, none⟩ = some (.bool L[k].2)) := fun x hx =>
        ⟨((hx.cell (p := ⟨b, off + k * 2, none⟩) (by simp; omega)).trans (World.cell?_of_block (heap_alloc_old w _ hb))).trans h1, ((hx.cell (p := ⟨b, off + k * 2 + 1, none⟩) (by simp; omega)).trans (World.cell?_of_block (heap_alloc_old w _ hb))).trans h2⟩
      obtain ⟨g1, g2⟩ := HF.out _ hbel
      have HT := hide (words_take_succ hlt)
      have hwt := words_take_le L (k + 1)
      have hwt0 := words_take_le L k
      have hle : L[k].1.length ≤ 20000 := by have := HT.out; omega
      have hpt : (plF 0 (L.take k)).length ≤ L.length := Nat.le_trans (plF_len_le _ _) (by simp; omega)
      clear HR h3 h4 h1 h2 hb
      cases hg : L[k].2
      · have HE := hide (plF_take_keep hlt hg)
        rw [hg] at g2
        generalize hp : words (L.take k) = p at *
        have HP := hide hp
        clear hp
        go_wp2_with (at_builtin; refine wpList_append_own _ rfl _ _ 32 rfl (w.heap.size + 1) 3 i0 (.int .i64 0) 1 8 Try.underlying32 hi hz0 hz1 hz2 rfl (by decide) _ _ _ rfl (hown.alloc _) ⟨wr.heap.size, 0, none⟩ 1 1 [.int .i64 p] rfl rfl (cell_one_new _ _ _) (fun x hx => by simp at hx; subst hx; rfl) (by unfold maxLen; omega) (by omega) (by simp; omega) ?_; intro v' w2 hown2 hgrow2 hnil; have hown3 := own_snoc hown2 HE.out; have hbel3 := ((hbel.alloc (by omega) (.cells #[.int .i64 p] 3)).grown hgrow2 (by simp; omega) (fun g hg => (hown.lt g hg).1)); have cB3 := HB0.out _ hbel3; obtain ⟨g31, g32⟩ := HF.out _ hbel3; clear hown2 hgrow2 hnil g32)
        go_roundw
        case rel => exact ⟨k + 1, by omega, by go_num, by rw [HT.out]; go_num, hown3, hbel3⟩
        case measure => simp [intOf]; omega
      · have HE := hide (plF_take_gone hlt hg)
        rw [hg] at g2
        generalize hp : words (L.take k) = p at *
        have HP := hide hp
        clear hp
        go_wp2
        go_roundw
        case rel => exact ⟨k + 1, by omega, by go_num, by rw [HT.out]; go_num, by rw [HE.out]; exact hown, hbel⟩
        case measure => simp [intOf]; omega
    · have hke : L.take k = L := List.take_of_length_le (by omega)
      rw [hke] at hown ⊢
      clear HR hke
      go_wp2
      go_ret
      exact ⟨_, rfl, ownsRow_base hown (by omega), ((Below.refl _ _).alloc (Nat.le_refl _) _).trans (hbel.mono (by omega))⟩

end Go.Proofs.Ytbibbdkijgaoeaa
