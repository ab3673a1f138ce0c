/- Contracts: which two literals a Back would open first; a copy of a list. -/
import Derived.Test.YtlmbgaconjcaiabGd
import Derived.Lib.SliceRun
set_option linter.unusedVariables false
set_option linter.unusedSimpArgs false
namespace Go.Proofs.Ytlmbgaconjcaiab
open Go.RowKit

theorem ret_tup {k k' : IntKind} {a b c d : Int} (h : a = c) (h' : b = d) : Ending.returned (.tuple #[.int k a, .int k' b]) = .returned (.tuple #[.int k c, .int k' d]) := by rw [h, h']

section
variable {ρ : Nat → Rl} {w : World} {B : Nat} {H : Hd} {s : PS}

theorem later_mem (s : PS) (p : Int × Int) (l : Int) : (s.later p l).1 = p.1 ∨ (s.later p l).1 = l := by
  unfold PS.later; split
  · exact .inl rfl
  · split
    · exact .inr rfl
    · split <;> exact .inl rfl
theorem later_mem2 (s : PS) (p : Int × Int) (l : Int) : (s.later p l).2 = p.1 ∨ (s.later p l).2 = p.2 ∨ (s.later p l).2 = l := by
  unfold PS.later; split
  · exact .inr (.inl rfl)
  · split
    · exact .inl rfl
    · split
      · exact .inr (.inr rfl)
      · exact .inr (.inl rfl)

theorem latest_ok (s : PS) {V : Nat} : ∀ (ls : List Int) (p : Int × Int), (∀ x ∈ ls, Lt V x) → (p.1 = 0 ∨ Lt V p.1) → (p.2 = 0 ∨ Lt V p.2) → (((ls.foldl s.later p).1 = 0 ∨ Lt V (ls.foldl s.later p).1) ∧ ((ls.foldl s.later p).2 = 0 ∨ Lt V (ls.foldl s.later p).2))
  | [], p, _, h1, h2 => ⟨h1, h2⟩
  | l :: r, p, h, h1, h2 => by
    have hl := h l (by simp)
    refine latest_ok s r (s.later p l) (fun x hx => h x (List.mem_cons_of_mem _ hx)) ?_ ?_
    · rcases later_mem s p l with e | e <;> rw [e]
      · exact h1
      · exact .inr hl
    · rcases later_mem2 s p l with e | e | e <;> rw [e]
      · exact h1
      · exact h2
      · exact .inr hl

theorem foldl_take_snoc (s : PS) (ls : List Int) (k : Nat) (h : k < ls.length) (p : Int × Int) : (ls.take (k + 1)).foldl s.later p = s.later ((ls.take k).foldl s.later p) ls[k] := by
  rw [List.take_succ_eq_append_getElem h, List.foldl_append]; rfl

set_option maxRecDepth 100000 in
set_option maxHeartbeats 2000000 in
theorem latest_any (h : Rep ρ w B H s) (a : Option Addr) (cap : Nat) (ls : List Int) (hr : Row w a ls) (hl : ∀ x ∈ ls, Lt s.vars x) (hlen : ls.length ≤ 100000) (hS : Shp s) :
    Calls Try.prog 48 #[.pointer (some ⟨B, 0, none⟩), .slice a ls.length cap] w fun e w' => e = .returned (.tuple #[.int .i64 (s.latest ls).1, .int .i64 (s.latest ls).2]) ∧ ∃ n, w' = w.drewN n := by
  have FF := fun (x : Int) (hx : Lt s.vars x) (m : Nat) => hide (falseFrom_any (h.drewN m) x hx hS)
  clear h
  go_enter Try.func48, Try.ntmps48
  go_wp2
  go_loopw [6, 7, 12] (fun f g i wr => ∃ (k m : Nat), k ≤ ls.length ∧ i = .int .i64 k ∧ f = .int .i64 ((ls.take k).foldl s.later (0, 0)).1 ∧ g = .int .i64 ((ls.take k).foldl s.later (0, 0)).2 ∧ wr = w.drewN m) (fun _ _ i _ => ls.length - (intOf i).toNat)
  case atStart => exact ⟨0, 0, Nat.zero_le _, rfl, rfl, rfl, rfl⟩
  case round =>
    obtain ⟨k, m, hk, rfl, rfl, rfl, rfl⟩ := hrel
    by_cases hlt : k < ls.length
    · obtain ⟨b, off, rfl, hb, hc⟩ := hr k hlt
      have hx := hl ls[k] (List.getElem_mem hlt)
      have HS := hide (foldl_take_snoc s ls k hlt (0, 0))
      obtain ⟨o1, o2⟩ := latest_ok s (V := s.vars) (ls.take k) (0, 0) (fun x hx => hl x (List.mem_of_mem_take hx)) (.inl rfl) (.inl rfl)
      have hki : (k : Int) < ls.length := by omega
      clear hr hl
      generalize (ls.take k).foldl s.later (0, 0) = p at *
      obtain ⟨p1, p2⟩ := p
      generalize ls[k] = x at *
      simp only at o1 o2 ⊢
      have FX := FF x hx
      by_cases hA : x = p1 ∨ x = p2
      · have HE : Hid (s.later (p1, p2) x = (p1, p2)) := if_pos hA
        by_cases hA1 : x = p1
        · have hA1' : (x == p1) = true := by simpa using hA1
          clear hA hA1 FF FX
          go_wp2
          go_roundw
          case rel => exact ⟨k + 1, m, by omega, by go_num, by rw [HS.out, HE.out], by rw [HS.out, HE.out], rfl⟩
          case measure => simp [intOf]; omega
        · have hA2 : x = p2 := hA.resolve_left hA1
          have hA1' : (x == p1) = false := by simpa using hA1
          have hA2' : (x == p2) = true := by simpa using hA2
          clear hA hA1 hA2 FF FX
          go_wp2
          go_roundw
          case rel => exact ⟨k + 1, m, by omega, by go_num, by rw [HS.out, HE.out], by rw [HS.out, HE.out], rfl⟩
          case measure => simp [intOf]; omega
      · have hA1' : (x == p1) = false := by simp; exact fun e => hA (.inl e)
        have hA2' : (x == p2) = false := by simp; exact fun e => hA (.inr e)
        by_cases hB : p1 = 0
        · have HE : Hid (s.later (p1, p2) x = (x, p1)) := by unfold Hid PS.later; rw [if_neg hA, if_pos (.inl hB)]
          have hB' : (p1 == 0) = true := by simpa using hB
          clear hA FF FX o1 o2 hB
          go_wp2
          go_roundw
          case rel => exact ⟨k + 1, m, by omega, by go_num, by rw [HS.out, HE.out], by rw [HS.out, HE.out], rfl⟩
          case measure => simp [intOf]; omega
        · have hB' : (p1 == 0) = false := by simpa using hB
          have F1 := FF p1 (o1.resolve_left hB)
          by_cases hC : s.falseFrom p1 < s.falseFrom x
          · have HE : Hid (s.later (p1, p2) x = (x, p1)) := by unfold Hid PS.later; rw [if_neg hA, if_pos (.inr hC)]
            clear hA FF o1 o2 hB
            generalize s.falseFrom p1 = y1 at *
            generalize s.falseFrom x = y at *
            go_wp2_with fail
            refine (unhide (FX _)).mono ?_
            rintro e w1 ⟨rfl, n1, rfl⟩
            go_wp2_with fail
            refine (unhide (F1 (m + n1))).mono ?_
            rintro e w1 ⟨rfl, n2, rfl⟩
            go_wp2
            go_roundw
            case rel => exact ⟨k + 1, m + n1 + n2, by omega, by go_num, by rw [HS.out, HE.out], by rw [HS.out, HE.out], rfl⟩
            case measure => simp [intOf]; omega
          · by_cases hD : p2 = 0
            · have HE : Hid (s.later (p1, p2) x = (p1, x)) := by unfold Hid PS.later; rw [if_neg hA, if_neg (by rintro (h | h); exact hB h; exact hC h), if_pos (.inl hD)]
              have hD' : (p2 == 0) = true := by simpa using hD
              clear hA FF o1 o2 hB hD
              generalize s.falseFrom p1 = y1 at *
              generalize s.falseFrom x = y at *
              go_wp2_with fail
              refine (unhide (FX _)).mono ?_
              rintro e w1 ⟨rfl, n1, rfl⟩
              go_wp2_with fail
              refine (unhide (F1 (m + n1))).mono ?_
              rintro e w1 ⟨rfl, n2, rfl⟩
              go_wp2
              go_roundw
              case rel => exact ⟨k + 1, m + n1 + n2, by omega, by go_num, by rw [HS.out, HE.out], by rw [HS.out, HE.out], rfl⟩
              case measure => simp [intOf]; omega
            · have hD' : (p2 == 0) = false := by simpa using hD
              have F2 := FF p2 (o2.resolve_left hD)
              by_cases hE : s.falseFrom p2 < s.falseFrom x
              · have HE : Hid (s.later (p1, p2) x = (p1, x)) := by unfold Hid PS.later; rw [if_neg hA, if_neg (by rintro (h | h); exact hB h; exact hC h), if_pos (.inr hE)]
                clear hA FF o1 o2 hB hD
                generalize s.falseFrom p1 = y1 at *
                generalize s.falseFrom p2 = y2 at *
                generalize s.falseFrom x = y at *
                go_wp2_with fail
                refine (unhide (FX _)).mono ?_
                rintro e w1 ⟨rfl, n1, rfl⟩
                go_wp2_with fail
                refine (unhide (F1 (m + n1))).mono ?_
                rintro e w1 ⟨rfl, n2, rfl⟩
                go_wp2_with fail
                refine (unhide (FX (m + n1 + n2))).mono ?_
                rintro e w1 ⟨rfl, n3, rfl⟩
                go_wp2_with fail
                refine (unhide (F2 (m + n1 + n2 + n3))).mono ?_
                rintro e w1 ⟨rfl, n4, rfl⟩
                go_wp2
                go_roundw
                case rel => exact ⟨k + 1, m + n1 + n2 + n3 + n4, by omega, by go_num, by rw [HS.out, HE.out], by rw [HS.out, HE.out], rfl⟩
                case measure => simp [intOf]; omega
              · have HE : Hid (s.later (p1, p2) x = (p1, p2)) := by unfold Hid PS.later; rw [if_neg hA, if_neg (by rintro (h | h); exact hB h; exact hC h), if_neg (by rintro (h | h); exact hD h; exact hE h)]
                clear hA FF o1 o2 hB hD
                generalize s.falseFrom p1 = y1 at *
                generalize s.falseFrom p2 = y2 at *
                generalize s.falseFrom x = y at *
                go_wp2_with fail
                refine (unhide (FX _)).mono ?_
                rintro e w1 ⟨rfl, n1, rfl⟩
                go_wp2_with fail
                refine (unhide (F1 (m + n1))).mono ?_
                rintro e w1 ⟨rfl, n2, rfl⟩
                go_wp2_with fail
                refine (unhide (FX (m + n1 + n2))).mono ?_
                rintro e w1 ⟨rfl, n3, rfl⟩
                go_wp2_with fail
                refine (unhide (F2 (m + n1 + n2 + n3))).mono ?_
                rintro e w1 ⟨rfl, n4, rfl⟩
                go_wp2
                go_roundw
                case rel => exact ⟨k + 1, m + n1 + n2 + n3 + n4, by omega, by go_num, by rw [HS.out, HE.out], by rw [HS.out, HE.out], rfl⟩
                case measure => simp [intOf]; omega
    · have HE : Hid (ls.take k = ls) := List.take_of_length_le (by omega)
      have HF : Hid ((ls.take k).foldl s.later (0, 0) = s.latest ls) := by unfold Hid; rw [HE.out]; rfl
      clear FF hr hl
      generalize (ls.take k).foldl s.later (0, 0) = p at *
      go_wp2
      go_ret2
      exact ⟨ret_tup (congrArg Prod.fst HF.out) (congrArg Prod.snd HF.out), ⟨_, rfl⟩⟩

def CloneP (w : World) (xs : List Int) (e : Ending) (w' : World) : Prop := ∃ v, e = .returned v ∧ Own w.heap.size w' v xs ∧ Below w.heap.size w w'

set_option maxHeartbeats 800000 in
set_option maxRecDepth 100000 in
theorem clone_any (a : Option Addr) (cap : Nat) (xs : List Int) (w : World) (hr : Row w a xs) (hl : xs.length ≤ 2000000) (hcap : a = none → cap = 0) :
    Calls Try.prog 47 #[.slice a xs.length cap] w fun e w' => CloneP w xs e w' := by
  obtain ⟨i0, hi, hz0, hz1, hz2⟩ := info_parts Try.info3
  have q34 : ∀ (w : World) (a : Option Addr) (n c n' c' : Nat), (binOp .eql 32 (.slice a n c) (.slice none n' c')).run Try.prog w = .ok (.bool a.isNone) w := fun w a n c n' c' => Lib.run_eql_slice_nil w _ _ a n c n' c' Try.underlying32
  cases a with
  | none =>
    obtain rfl : xs = [] := by
      cases xs with
      | nil => rfl
      | cons x r => obtain ⟨b, off, e, _⟩ := hr 0 (by simp); cases e
    obtain rfl := hcap rfl
    clear hr hcap hl
    go_enter Try.func47, Try.ntmps47
    go_wp2
    go_ret
    exact ⟨_, rfl, World.ownsRow_nil _ _ _ _, Below.refl _ _⟩
  | some ad =>
    have hr' := hr.below (below_alloc w (.cells #[] 3))
    have hsrc : ∀ j u, (xs.map (Value.int .i64))[j]? = some u → (w.alloc (.cells #[] 3)).cell? (ad.add j) = some u := by
      intro j u hu
      rw [List.getElem?_map] at hu
      obtain ⟨x, hx, rfl⟩ := Option.map_eq_some_iff.1 hu
      obtain ⟨hj, rfl⟩ := List.getElem?_eq_some_iff.1 hx
      obtain ⟨b, off, e, hb, hc⟩ := hr' j hj
      simp at e; subst e
      rw [Addr.add_lit]; exact hc
    have HSRC := hide hsrc
    clear hr hr' hsrc hcap
    go_enter Try.func47, Try.ntmps47
    go_wp2_with (at_builtin; refine wpList_append_any rfl _ _ 32 rfl w.heap.size 3 i0 (.int .i64 0) 1 8 Try.underlying32 hi hz0 hz1 hz2 rfl (by decide) (.slice (some ⟨w.heap.size, 0, none⟩) 0 0) 0 [] rfl (World.ownsRow_made w #[] 0 (Nat.le_refl _) (Nat.zero_le _) rfl) (by simp) (some ad) xs.length cap (xs.map (Value.int .i64)) rfl (.inr ⟨ad, rfl, by simp, HSRC.out⟩) (by simp [Value.oneCell']) (by unfold maxLen; omega) (by omega) (by simp) ?_; intro g3 cap3 w3 hown3 hgrow3 hat3 hlt3)
    go_ret
    refine ⟨_, rfl, ?_, (below_alloc w _).grown hgrow3 (by simp) (fun k hk => by simp [Value.ownBlock] at hk; omega)⟩
    unfold Own
    simpa using hown3
end

end Go.Proofs.Ytlmbgaconjcaiab
