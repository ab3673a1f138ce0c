/- What was learned, shortened: only its first literal is of the broken clause's level. -/
import Derived.Test.YtaepanmkofhgoaaPlainI
set_option linter.unusedVariables false
set_option linter.unusedSimpArgs false
namespace Go.Proofs.Ytaepanmkofhgoaa

theorem short_point {ts : List As} {c : List Int} (LN : Lrn ts c) (hg0 : 0 ≤ grt ts c) {y : Int} {R : List Int} (e : shortL ts (learnL ts c) = y :: R) : (∀ l ∈ R, levI ts l < levI ts y) ∧ grt ts R < levI ts y := by
  have hy : y ∈ learnL ts c := short_sub (by rw [e]; simp)
  have hlen : 0 < (learnL ts c).length := List.length_pos_of_mem hy
  have hpos : 0 < grt ts c := by
    rcases (by omega : grt ts c = 0 ∨ 0 < grt ts c) with e0 | h
    · rw [LN.zero e0] at hlen; simp at hlen
    · exact h
  obtain ⟨R', e2⟩ := short_head (ts := ts) hlen
  rw [e] at e2
  have hy0 : y = (learnL ts c)[0] := (List.cons.inj e2).1
  have hly : levI ts y = grt ts c := by rw [hy0]; exact (LN.top hpos 0 hlen).2 rfl
  have hnd := short_nodup (ts := ts) (RB_nodup LN.srt)
  rw [e] at hnd
  have hnd' := List.nodup_cons.1 hnd
  have hR : ∀ l ∈ R, levI ts l < levI ts y := by
    intro l hl
    have hm : l ∈ learnL ts c := short_sub (by rw [e]; simp [hl])
    obtain ⟨i, hi, ei⟩ := List.mem_iff_getElem.1 hm
    have hi0 : i ≠ 0 := by
      intro h0
      subst h0
      exact hnd'.1 (by rw [hy0, ei]; exact hl)
    have h1 := (LN.lev l hm).1
    have h2 : levI ts l ≠ grt ts c := fun h => hi0 ((LN.top hpos i hi).1 (by rw [ei]; exact h))
    omega
  refine ⟨hR, ?_⟩
  rcases grt_has (ts := ts) R 0 with h0 | ⟨l, hl, h0⟩
  · unfold grt; omega
  · have := hR l hl
    unfold grt
    omega

theorem grt_mem {ts : List As} {R : List Int} {l : Int} (h : l ∈ R) : levI ts l ≤ grt ts R := (grt_ge R 0).2 l h

end Go.Proofs.Ytaepanmkofhgoaa
