/- Contracts: One. -/
import Derived.Test.YtbilhiklfficoaaCj
set_option linter.unusedVariables false
set_option linter.unusedSimpArgs false
namespace Go.Proofs.Ytbilhiklfficoaa
open Go.RowKit Go.Maps

/-- What One tells. -/
def OneP (w : World) (l : List Int) (e : Ending) (w' : World) : Prop := ∃ v, e = .returned v ∧ OG w.heap.size w' v (oneF l) ∧ Below w.heap.size w w'
section
variable (w : World) (B M : Nat) (v : Value) (g : List Gt)
theorem one_no (ax : Option Addr) (ca : Nat) (l : List Int) (hA : Gr w B M v g) (hr : Row w ax l) (hl : l.length ≤ 100) (hm : mayL g l = false) :
    Calls Try.prog 20 #[.pointer (some ⟨B, 0, none⟩), .slice ax l.length ca] w fun e w' => e = .returned (.slice none 0 0) ∧ w' = w := by
  have IC := isCounted_any w B M v g ax ca l hA hr hl
  rw [hm] at IC
  replace IC := hide IC
  clear hA hr
  go_enter Try.func20, Try.ntmps20
  go_wp2_with (go_at_call 27; refine (unhide IC).mono ?_; rintro e w' ⟨rfl, hw'⟩; subst w')
  go_ret
  exact ⟨rfl, rfl⟩

theorem own_ge {w : World} {base : Nat} {e : TypeId} {v : Value} {n b : Nat} {vs : List Value} (h : w.ownsRow base e 1 v n vs) (hb : v.ownBlock = some b) : base ≤ b := by
  rcases h.2 with ⟨rfl, _⟩ | ⟨g', cap, cur, rfl, h1, _⟩
  · simp [Value.ownBlock] at hb
  · simp [Value.ownBlock] at hb; omega
theorem drop_at {l : List Int} {i k : Nat} (h : k < (l.drop (i + 1)).length) : (l.drop (i + 1)).drop k = (l.drop (i + 1))[k] :: (l.drop (i + 1)).drop (k + 1) := List.drop_eq_getElem_cons h

set_option maxHeartbeats 8000000 in
set_option maxRecDepth 100000 in
theorem one_yes (ax : Option Addr) (ca : Nat) (l : List Int) (n : Nat) (hA : Gr w B M v g) (hn : l.length = n) (hr : Row w ax l) (hcap : n ≤ ca) (hf : ax = none → l = [] ∧ ca = 0) (hm : mayL g l = true) :
    Calls Try.prog 20 #[.pointer (some ⟨B, 0, none⟩), .slice ax n ca] w (OneP w l) := by
  have hm2 := mayL_iff.1 hm
  have h64 : n ≤ 64 := hn ▸ hm2.2
  have IC := isCounted_any w B M v g ax ca l hA hr (by omega)
  rw [hm, hn] at IC
  replace IC := hide IC
  have NG : Hid (∀ W (k : Int), k ∈ l → Calls Try.prog 37 #[.int .i64 k] W fun e w' => e = .returned (.int .i64 (notI k)) ∧ w' = W) := fun W k hk => negM W g k _ hA.le ⟨hm2.1 k hk, fun _ => rfl⟩
  have HFL : Hid ((oneF l).length ≤ 5000) := by
    have := pairs_len l
    have h2 : l.length * l.length ≤ 64 * 64 := Nat.mul_le_mul (by omega) (by omega)
    unfold Hid oneF; simp; omega
  obtain ⟨i3, hi3, hz3, hy3, hx3⟩ := info_parts Try.info3
  obtain ⟨i24, hi24, hz24, hy24, hx24⟩ := info_parts Try.info24
  have hb0 := below_alloc w (.cells #[] 3)
  have hsrc : (ax = none ∧ n = 0 ∧ ca = 0 ∧ l.map (Value.int .i64) = []) ∨ ∃ ad, ax = some ad ∧ (l.map (Value.int .i64)).length = n * 1 ∧ ∀ j u, (l.map (Value.int .i64))[j]? = some u → (w.alloc (.cells #[] 3)).cell? (ad.add j) = some u := by
    cases ax with
    | none => obtain ⟨rfl, h2⟩ := hf rfl; exact .inl ⟨rfl, hn.symm, h2, rfl⟩
    | some ad =>
      refine .inr ⟨ad, rfl, by simp [hn], fun j u hu => ?_⟩
      rw [List.getElem?_map] at hu
      obtain ⟨z, hz, rfl⟩ := Option.map_eq_some_iff.1 hu
      obtain ⟨hj, hz'⟩ := List.getElem?_eq_some_iff.1 hz
      obtain ⟨b, off, e, hb, hc⟩ := (hr.below hb0) j hj
      cases e
      rw [Addr.add_lit, ← hz']; exact hc
  have h1c : ∀ u ∈ l.map (Value.int .i64), u.oneCell' = true := by
    intro u hu
    obtain ⟨z, _, rfl⟩ := List.mem_map.1 hu
    rfl
  have HR := hide hr
  have HN := hide hn
  have HB0 := hide hb0
  clear hA hr hm hm2 hf
  go_enter Try.func20, Try.ntmps20
  go_upto_region 4 with (first
    | (go_at_call 27; refine (unhide IC).mono ?_; rintro e w' ⟨rfl, hw'⟩; subst w')
    | (at_builtin; refine wpList_append_any rfl _ _ 24 rfl w.heap.size 3 i3 (.int .i64 0) 1 8 Try.underlying24 hi3 hz3 hy3 hx3 rfl (by decide) (.slice (some ⟨w.heap.size, 0, none⟩) 0 0) 0 [] rfl (lit0 w 3 1) (by simp) ax n ca (l.map (Value.int .i64)) rfl hsrc h1c (by unfold maxLen; omega) (by omega) (by simp) ?_; intro q1 c1 w1 hown1 hgrow1 hat1 hlt1))
  have hb1 : Below w.heap.size w w1 := hb0.grown hgrow1 (by simp) (by intro k hk; cases hk; exact Nat.le_refl _)
  rw [Nat.zero_add, List.nil_append] at hown1
  have HO : OwI w.heap.size w1 (.slice (some ⟨q1, 0, none⟩) n c1) l := by unfold OwI; rw [hn]; exact hown1
  have HG0 := hide (og_one HO hb1.size)
  have HB1 := hide (hb1.alloc hb1.size (.cells #[.slice (some ⟨q1, 0, none⟩) n c1] 24))
  clear hown1 hgrow1 hat1 hlt1 HO hb1 hsrc h1c IC hb0 HB0
  go_wp2
  go_loopw [5, 20] (fun c i W => ∃ k : Nat, k ≤ n ∧ i = .int .i64 (k : Int) ∧ ∃ css, Hid (OG w.heap.size W c css) ∧ Hid (css ++ pairsF (l.drop k) = oneF l) ∧ Hid (Below w.heap.size w W)) (fun _ i _ => n - (intOf i).toNat)
  case atStart => exact ⟨0, Nat.zero_le _, rfl, _, HG0, rfl, HB1⟩
  case round =>
    clear HG0 HB1
    obtain ⟨k, hk, rfl, css, HG, HC, HB⟩ := hrel
    by_cases hlt : k < n
    · have hkl : k < l.length := by rw [HN.out]; exact hlt
      obtain ⟨b, off, rfl, hb, hcell⟩ := (HR.out.below HB.out) k hkl
      have HX : Hid (l[k] ∈ l) := List.getElem_mem hkl
      have HP := hide (pairs_drop hkl)
      have hkn : (k : Int) < (n : Int) := by omega
      have hkn1 : (k : Int) + 1 ≤ (n : Int) := by omega
      generalize l[k] = x at *
      clear hkl
      by_cases hc : k + 1 = ca
      · have hcn : k + 1 = n := by omega
        have HD : Hid (css ++ pairsF (l.drop (k + 1)) = oneF l) := by
          have h1 := HC.out
          have h2 : l.drop (k + 1) = [] := List.drop_eq_nil_of_le (by rw [HN.out]; omega)
          rw [HP.out, h2] at h1
          rw [h2]; exact h1
        subst hc
        clear HC HP
        go_upto_region 8 with fail
        go_loopw [5, 30] (fun c i W => i = .int .i64 0 ∧ Hid (OG w.heap.size W c css) ∧ Hid (Below w.heap.size w W)) (fun _ _ _ => 0)
        case atStart => exact ⟨rfl, HG, HB⟩
        case round =>
          clear HG HB
          obtain ⟨rfl, HG, HB⟩ := hrel
          go_wp2
          go_roundw
          case rel => exact ⟨k + 1, by omega, by go_num, css, HG, HD, HB⟩
          case measure => simp [intOf]; omega
      · obtain ⟨r, hr⟩ : ∃ r, n - (k + 1) = r := ⟨_, rfl⟩
        obtain ⟨rest, hrest⟩ : ∃ rest, l.drop (k + 1) = rest := ⟨_, rfl⟩
        have hrl : rest.length = r := by rw [← hrest, List.length_drop, HN.out, hr]
        have HRR : Hid (Row w (some ⟨b, off + (k + 1), none⟩) rest) := by rw [← hrest]; exact HR.out.drop (k + 1)
        have HMM : Hid (∀ y ∈ rest, y ∈ l) := fun y hy => by rw [← hrest] at hy; exact List.mem_of_mem_drop hy
        have HDN : Hid (l.drop (k + 1) = rest) := hrest
        rw [hrest] at HP
        have HD0 : Hid (css ++ pairF x (rest.drop 0) ++ pairsF rest = oneF l) := by rw [List.drop_zero, List.append_assoc, ← HP.out]; exact HC
        have hr64 : r ≤ 64 := by omega
        go_upto_region 8 with fail
        clear hrest HC HP hc
        go_loopw [5, 30] (fun c i W => ∃ j : Nat, j ≤ r ∧ i = .int .i64 (j : Int) ∧ ∃ css, Hid (OG w.heap.size W c css) ∧ Hid (css ++ pairF x (rest.drop j) ++ pairsF rest = oneF l) ∧ Hid (Below w.heap.size w W)) (fun _ i _ => r - (intOf i).toNat)
        case atStart => exact ⟨0, Nat.zero_le _, rfl, css, HG, HD0, HB⟩
        case round =>
          clear HG HB HD0
          obtain ⟨j, hj, rfl, css, HG, HD, HB⟩ := hrel
          by_cases hjr : j < r
          · have hjl : j < rest.length := by rw [hrl]; exact hjr
            obtain ⟨b2, off2, e2, hb2, hcell2⟩ := (HRR.out.below HB.out) j hjl
            cases e2
            have HDJ := hide (List.drop_eq_getElem_cons hjl)
            have HY := hide (HMM.out _ (List.getElem_mem hjl))
            have hjr' : (j : Int) < (r : Int) := by omega
            generalize rest[j] = y at *
            clear hjl
            have N1 := hide (unhide NG wr x HX.out)
            have N2 := hide (unhide NG wr y HY.out)
            have HPR : Hid (pairF x (rest.drop j) = [notI x, notI y] :: pairF x (rest.drop (j + 1))) := by rw [HDJ.out]; rfl
            have hlen : css.length ≤ 5000 := by
              have h1 := HFL.out
              rw [← HD.out] at h1
              simp at h1; omega
            have hz1 : (wr.alloc (.cells #[.int .i64 (notI x), .int .i64 (notI y)] 3)).heap.size = wr.heap.size + 1 := by simp
            have HU := own_less (row_below (own_lit2 wr (.int .i64 (notI x)) (.int .i64 (notI y)) 3) (below_alloc _ (.cells #[.slice (some ⟨wr.heap.size, 0, none⟩) 2 2] 24))) HB.out.size
            have HG2 := (HG.out.below (below_alloc wr (.cells #[.int .i64 (notI x), .int .i64 (notI y)] 3))).below (below_alloc _ (.cells #[.slice (some ⟨wr.heap.size, 0, none⟩) 2 2] 24))
            have HB2 := (HB.out.alloc HB.out.size (.cells #[.int .i64 (notI x), .int .i64 (notI y)] 3)).alloc (by rw [hz1]; have := HB.out.size; omega) (.cells #[.slice (some ⟨wr.heap.size, 0, none⟩) 2 2] 24)
            have hcl := cell_new (wr.alloc (.cells #[.int .i64 (notI x), .int .i64 (notI y)] 3)) (.slice (some ⟨wr.heap.size, 0, none⟩) 2 2) 24
            rw [hz1] at hcl
            generalize notI x = nx at *
            generalize notI y = ny at *
            obtain ⟨vs, o1, o2⟩ := HG2
            have HO1 := hide o1
            have HO2 := hide o2
            have HHB := hide HB2
            have HHU := hide HU
            have hnews : ∀ i u, ([.slice (some ⟨wr.heap.size, 0, none⟩) 2 2] : List Value)[i]? = some u → ((wr.alloc (.cells #[.int .i64 nx, .int .i64 ny] 3)).alloc (.cells #[.slice (some ⟨wr.heap.size, 0, none⟩) 2 2] 24)).cell? ((⟨wr.heap.size + 1, 0, none⟩ : Addr).add i) = some u := by
              intro i u hu
              cases i with
              | zero => simp at hu; subst hu; rw [Addr.add_lit]; exact hcl
              | succ i => simp at hu
            clear o2 HB2 HU hcl
            go_wp2_with (first
              | (go_at_call 37; refine (unhide N1).mono ?_; rintro e w' ⟨rfl, hw'⟩; subst w')
              | (go_at_call 37; refine (unhide N2).mono ?_; rintro e w' ⟨rfl, hw'⟩; subst w')
              | (at_builtin; refine wpList_append_own_at _ rfl _ _ 42 rfl w.heap.size 24 i24 (.slice none 0 0) 1 24 Try.underlying42 hi24 hz24 hy24 hx24 rfl (by decide) _ css.length vs rfl o1 ⟨wr.heap.size + 1, 0, none⟩ 1 1 [.slice (some ⟨wr.heap.size, 0, none⟩) 2 2] rfl rfl hnews (by simp [Value.oneCell']) (by unfold maxLen; omega) (by omega) (by simp; have := HB.out.size; omega) ?_; intro v3 w3 hown3 hgrow3 hnil3 hat3))
            have HG3 := hide (OG.snoc (c := [nx, ny]) HO1.out HO2.out HHU.out hown3 hgrow3)
            have HB3 := hide (HHB.out.grown hgrow3 (by simp; have := HB.out.size; omega) (by intro i hi; exact own_ge HO1.out hi))
            clear hown3 hgrow3 hnil3 hat3 o1
            go_roundw
            case rel => exact ⟨j + 1, by omega, by go_num, css ++ [[nx, ny]], HG3, by have h1 := HD.out; rw [HPR.out] at h1; unfold Hid; simpa using h1, HB3⟩
            case measure => simp [intOf]; omega
          · obtain rfl : j = r := by omega
            have HE : Hid (css ++ pairsF (l.drop (k + 1)) = oneF l) := by
              have h1 := HD.out
              rw [List.drop_eq_nil_of_le (by omega)] at h1
              unfold Hid
              rw [HDN.out]
              simpa [pairF] using h1
            clear HD
            go_wp2
            go_roundw
            case rel => exact ⟨k + 1, by omega, by go_num, css, HG, HE, HB⟩
            case measure => simp [intOf]; omega
    · obtain rfl : k = n := by omega
      have HE : Hid (css = oneF l) := by
        have h1 := HC.out
        rw [List.drop_eq_nil_of_le (by rw [HN.out]; exact Nat.le_refl _)] at h1
        unfold Hid
        simpa [pairsF] using h1
      go_wp2
      go_ret
      exact ⟨_, rfl, by rw [← HE.out]; exact HG.out, HB.out⟩
end
end Go.Proofs.Ytbilhiklfficoaa
