/- The law of halves, walked: it returns true at any learned clauses. -/
import Derived.Test.YtbmefipobnamjaaWalkH
set_option linter.unusedVariables false
set_option linter.unusedSimpArgs false
namespace Go.Proofs.Ytbmefipobnamjaa
open Go.RowKit

/-- Behind Keep: what it told lies in a block. -/
structure Kpt (w W : World) (L : List Ln) (S : List Nat) (kb : Nat) : Prop where
  bel : Below w.heap.size w W
  bk : Bk W kb 4 L.length (fun i => .bool (keepF L S i))
theorem Kpt.grown {w W W' : World} {L : List Ln} {S : List Nat} {kb : Nat} (h : Kpt w W L S kb) (hb : Below W.heap.size W W') : Kpt w W' L S kb :=
  ⟨h.bel.trans (hb.mono h.bel.size), h.bk.same (hb.block _ h.bk.lt)⟩

set_option maxHeartbeats 2000000 in
theorem halves_far (w : World) (a : Option Addr) (cap : Nat) (L : List Ln) (hl : 100 < L.length) (hm : L.length ≤ maxLen) :
    Calls Try.prog 3 #[.slice a L.length cap] w fun e w' => e = .returned (.bool true) ∧ Below w.heap.size w w' := by
  have CA := hide awake_any
  have hl' : (100 : Int) < L.length := by omega
  unfold maxLen at hm
  go_enter Try.func3, Try.ntmps3
  go_wp2_with (go_at_call 6; refine (unhide CA _).mono ?_; rintro e w9 ⟨rfl, hb9⟩)
  go_ret
  exact ⟨rfl, hb9⟩

set_option maxHeartbeats 2000000 in
theorem halves_no (w : World) (a : Option Addr) (cap : Nat) (L : List Ln) (h : Lns w a L) (hl : L.length ≤ 100) (hm : mayA L = false) :
    Calls Try.prog 3 #[.slice a L.length cap] w fun e w' => e = .returned (.bool true) ∧ Below w.heap.size w w' := by
  have CA := hide awake_any
  have CM := refMay_any w a cap L h hl
  rw [hm] at CM
  replace CM := hide CM
  clear h
  go_enter Try.func3, Try.ntmps3
  go_wp2_with (first | (go_at_call 5; refine (unhide CM).mono ?_; rintro e w1 ⟨rfl, hb1⟩) | (go_at_call 6; refine (unhide CA _).mono ?_; rintro e w9 ⟨rfl, hb9⟩))
  go_ret
  exact ⟨rfl, hb1.trans (hb9.mono hb1.size)⟩

set_option maxHeartbeats 4000000 in
set_option maxRecDepth 100000 in
theorem halves_yes (w : World) (a : Option Addr) (cap : Nat) (L : List Ln) (h : Lns w a L) (hl : L.length ≤ 100) (hm : mayA L = true) :
    Calls Try.prog 3 #[.slice a L.length cap] w fun e w' => e = .returned (.bool true) ∧ Below w.heap.size w w' := by
  have CA := hide awake_any
  have CM := refMay_any w a cap L h hl
  rw [hm] at CM
  replace CM := hide CM
  have CK := hide (fun W (hb : Below w.heap.size w W) => keep_any W a cap L (h.below hb) hl hm)
  have HL := hide h
  clear h hm
  go_enter Try.func3, Try.ntmps3
  go_upto_region 3 with (go_at_call 5; refine (unhide CM).mono ?_; rintro e w1 ⟨rfl, hb1⟩)
  have CK1 := hide (unhide CK w1 hb1)
  have HB1 := hide hb1
  clear hb1 CK CM
  go_upto_region 8 with (go_at_call 7; refine (unhide CK1).mono ?_; rintro e w2 ⟨S, rfl, hK⟩; have HK : Hid (Kpt w w2 L S w1.heap.size) := ⟨HB1.out.trans (hK.bel.mono HB1.out.size), hK.bk⟩; have HS := hide hK.srt; clear hK)
  clear CK1 HB1
  generalize w1.heap.size = kb at *
  go_loopw [4, 5, 6, 7] (fun f s i _ wr => ∃ k : Nat, k ≤ L.length ∧ i = .int .i64 k ∧ f = .int .i64 (freeN L k : Nat) ∧ s = .int .i64 (keptN L S k : Nat) ∧ Hid (Kpt w wr L S kb)) (fun _ _ i _ _ => L.length - (intOf i).toNat)
  case atStart => exact ⟨0, Nat.zero_le _, rfl, rfl, rfl, HK⟩
  case round =>
    obtain ⟨k, hk, rfl, rfl, rfl, HK⟩ := hrel
    by_cases hlt : k < L.length
    · obtain ⟨b, off, rfl, hA0⟩ := HL.out k hlt
      have hA := hA0.below HK.out.bel hA0.lt
      have c0 := hA.c0
      have c1 := hA.c1
      have c2 := hA.c2
      have CM := fun W => refMust_any W (nth L k)
      have hlt' : (k : Int) < L.length := by omega
      have hfl := freeN_le (L := L) k
      have hkl := keptN_le (L := L) (S := S) k
      have HC : Hid (∀ W', Below wr.heap.size wr W' → W'.cell? ⟨kb, k, none⟩ = some (.bool (keepF L S k))) := fun W' hb => (HK.out.grown hb).bk.cell hlt
      have HG : Hid (∀ W', Below wr.heap.size wr W' → Kpt w W' L S kb) := fun W' hb => HK.out.grown hb
      by_cases he : mustL (nth L k) = true
      · rw [he] at CM
        have hkk := keep_must HS.out hlt he
        rw [hkk] at HC
        have HF := hide (freeN_must he)
        have HE := hide (keptN_must (S := S) he)
        replace CM := hide CM
        clear hA hA0 he hkk HK
        generalize (nth L k).lev = lv at c0 CM
        generalize (nth L k).siz = sz at c1 CM
        generalize (nth L k).lck = lk at c2 CM
        go_upto_region 11 with (go_at_call 8; refine (unhide CM _).mono ?_; rintro e w4 ⟨rfl, hb4⟩)
        have cs := HC.out w4 hb4
        have HG4 := hide (HG.out w4 hb4)
        clear hb4 HC HG c0 c1 c2 CM
        go_wp2
        go_roundw
        case rel => exact ⟨k + 1, by omega, by go_num, by rw [HF.out], by rw [HE.out], HG4⟩
        case measure => simp [intOf]; omega
      · have he' : mustL (nth L k) = false := by simpa using he
        rw [he'] at CM
        have HF := hide (freeN_free he')
        have HMK := hide he'
        replace CM := hide CM
        by_cases hkt : keepF L S k = true
        · have HKT := hide hkt
          have HE := hide (keptN_yes he' hkt)
          rw [hkt] at HC
          clear hA hA0 he he' hkt HK
          generalize (nth L k).lev = lv at c0 CM
          generalize (nth L k).siz = sz at c1 CM
          generalize (nth L k).lck = lk at c2 CM
          go_upto_region 14 with (go_at_call 8; refine (unhide CM _).mono ?_; rintro e w4 ⟨rfl, hb4⟩)
          have cs := HC.out w4 hb4
          have HG4 := hide (HG.out w4 hb4)
          clear hb4 HC HG c0 c1 c2 CM
          go_upto_region 17 with fail
          go_loopw [7] (fun j wr => ∃ q : Nat, q ≤ L.length ∧ j = .int .i64 q ∧ Hid (Kpt w wr L S kb)) (fun j _ => L.length - (intOf j).toNat)
          case atStart => exact ⟨0, Nat.zero_le _, rfl, HG4⟩
          case round =>
            obtain ⟨q, hq, rfl, HK⟩ := hrel
            by_cases hlq : q < L.length
            · obtain ⟨b2, off2, e2, hB0⟩ := HL.out q hlq
              cases e2
              have hB := hB0.below HK.out.bel hB0.lt
              have c0 := hB.c0
              have c1 := hB.c1
              have c2 := hB.c2
              have CM := fun W => refMust_any W (nth L q)
              have hlq' : (q : Int) < L.length := by omega
              have HC : Hid (∀ W', Below wr.heap.size wr W' → W'.cell? ⟨kb, k, none⟩ = some (.bool true) ∧ W'.cell? ⟨kb, q, none⟩ = some (.bool (keepF L S q))) := fun W' hb => ⟨by rw [← HKT.out]; exact (HK.out.grown hb).bk.cell hlt, (HK.out.grown hb).bk.cell hlq⟩
              have HG : Hid (∀ W', Below wr.heap.size wr W' → Kpt w W' L S kb) := fun W' hb => HK.out.grown hb
              have CB := fun W (hb : Below w.heap.size w W) => better_any W b off cap L q k (HL.out.below hb) hl hlq hlt
              by_cases hmq : mustL (nth L q) = true
              · rw [hmq] at CM
                replace CM := hide CM
                clear hB hB0 hmq HK HC CB
                generalize (nth L q).lev = lv2 at *
                generalize (nth L q).siz = sz2 at *
                generalize (nth L q).lck = lk2 at *
                go_wp2_with (go_at_call 8; refine (unhide CM _).mono ?_; rintro e w5 ⟨rfl, hb5⟩)
                go_roundw
                case rel => exact ⟨q + 1, by omega, by go_num, HG.out w5 hb5⟩
                case measure => simp [intOf]; omega
              · have hmq' : mustL (nth L q) = false := by simpa using hmq
                rw [hmq'] at CM
                replace CM := hide CM
                by_cases hkq : keepF L S q = true
                · rw [hkq] at HC
                  clear hB hB0 hmq HK CB hkq
                  generalize (nth L q).lev = lv2 at *
                  generalize (nth L q).siz = sz2 at *
                  generalize (nth L q).lck = lk2 at *
                  go_wp2_with (go_at_call 8; refine (unhide CM _).mono ?_; rintro e w5 ⟨rfl, hb5⟩; obtain ⟨d1, d2⟩ := HC.out w5 hb5)
                  go_roundw
                  case rel => exact ⟨q + 1, by omega, by go_num, HG.out w5 hb5⟩
                  case measure => simp [intOf]; omega
                · have hkq' : keepF L S q = false := by simpa using hkq
                  rw [hkq'] at HC
                  rw [keep_best HS.out hlt hlq HMK.out hmq' HKT.out hkq'] at CB
                  replace CB := hide CB
                  clear hB hB0 hmq HK hkq hkq'
                  generalize (nth L q).lev = lv2 at *
                  generalize (nth L q).siz = sz2 at *
                  generalize (nth L q).lck = lk2 at *
                  go_wp2_with (first | (go_at_call 8; refine (unhide CM _).mono ?_; rintro e w5 ⟨rfl, hb5⟩; obtain ⟨d1, d2⟩ := HC.out w5 hb5) | (go_at_call 9; refine (unhide CB w5 (HG.out w5 hb5).bel).mono ?_; rintro e w6 ⟨rfl, hb6⟩))
                  go_roundw
                  case rel => exact ⟨q + 1, by omega, by go_num, (HG.out w5 hb5).grown hb6⟩
                  case measure => simp [intOf]; omega
            · have HBB := hide HK
              clear HK
              go_wp2
              go_roundw
              case rel => exact ⟨k + 1, by omega, by go_num, by rw [HF.out]; go_num, by rw [HE.out]; go_num, HBB⟩
              case measure => simp [intOf]; omega
        · have hkt' : keepF L S k = false := by simpa using hkt
          have HKT := hide hkt'
          have HE := hide (keptN_no he' hkt')
          rw [hkt'] at HC
          clear hA hA0 he he' hkt hkt' HK
          generalize (nth L k).lev = lv at c0 CM
          generalize (nth L k).siz = sz at c1 CM
          generalize (nth L k).lck = lk at c2 CM
          go_upto_region 14 with (go_at_call 8; refine (unhide CM _).mono ?_; rintro e w4 ⟨rfl, hb4⟩)
          have cs := HC.out w4 hb4
          have HG4 := hide (HG.out w4 hb4)
          clear hb4 HC HG c0 c1 c2 CM
          go_upto_region 17 with fail
          go_loopw [7] (fun j wr => ∃ q : Nat, q ≤ L.length ∧ j = .int .i64 q ∧ Hid (Kpt w wr L S kb)) (fun j _ => L.length - (intOf j).toNat)
          case atStart => exact ⟨0, Nat.zero_le _, rfl, HG4⟩
          case round =>
            obtain ⟨q, hq, rfl, HK⟩ := hrel
            by_cases hlq : q < L.length
            · obtain ⟨b2, off2, e2, hB0⟩ := HL.out q hlq
              cases e2
              have hB := hB0.below HK.out.bel hB0.lt
              have c0 := hB.c0
              have c1 := hB.c1
              have c2 := hB.c2
              have CM := fun W => refMust_any W (nth L q)
              have hlq' : (q : Int) < L.length := by omega
              have HC : Hid (∀ W', Below wr.heap.size wr W' → W'.cell? ⟨kb, k, none⟩ = some (.bool false) ∧ W'.cell? ⟨kb, q, none⟩ = some (.bool (keepF L S q))) := fun W' hb => ⟨by rw [← HKT.out]; exact (HK.out.grown hb).bk.cell hlt, (HK.out.grown hb).bk.cell hlq⟩
              have HG : Hid (∀ W', Below wr.heap.size wr W' → Kpt w W' L S kb) := fun W' hb => HK.out.grown hb
              have CB := fun W (hb : Below w.heap.size w W) => better_any W b off cap L q k (HL.out.below hb) hl hlq hlt
              by_cases hmq : mustL (nth L q) = true
              · rw [hmq] at CM
                replace CM := hide CM
                clear hB hB0 hmq HK HC CB
                generalize (nth L q).lev = lv2 at *
                generalize (nth L q).siz = sz2 at *
                generalize (nth L q).lck = lk2 at *
                go_wp2_with (go_at_call 8; refine (unhide CM _).mono ?_; rintro e w5 ⟨rfl, hb5⟩)
                go_roundw
                case rel => exact ⟨q + 1, by omega, by go_num, HG.out w5 hb5⟩
                case measure => simp [intOf]; omega
              · have hmq' : mustL (nth L q) = false := by simpa using hmq
                rw [hmq'] at CM
                replace CM := hide CM
                clear hB hB0 hmq HK CB
                generalize (nth L q).lev = lv2 at *
                generalize (nth L q).siz = sz2 at *
                generalize (nth L q).lck = lk2 at *
                go_wp2_with (go_at_call 8; refine (unhide CM _).mono ?_; rintro e w5 ⟨rfl, hb5⟩; obtain ⟨d1, d2⟩ := HC.out w5 hb5)
                go_roundw
                case rel => exact ⟨q + 1, by omega, by go_num, HG.out w5 hb5⟩
                case measure => simp [intOf]; omega
            · have HBB := hide HK
              clear HK
              go_wp2
              go_roundw
              case rel => exact ⟨k + 1, by omega, by go_num, by rw [HF.out]; go_num, by rw [HE.out], HBB⟩
              case measure => simp [intOf]; omega
    · have hz : k = L.length := by omega
      subst hz
      have hh := kept_half HS.out
      have hf := freeN_le (L := L) L.length
      have HB := hide HK.out.bel
      clear HK
      generalize freeN L L.length = F at *
      generalize keptN L S L.length = G at *
      have hd : (F : Int) / 2 = (G : Int) := by omega
      have hw : IntKind.i64.wrap (G : Int) = G := by rw [IntKind.wrap_i64]; omega
      clear hh
      go_wp2_with (go_at_call 6; refine (unhide CA _).mono ?_; rintro e w9 ⟨rfl, hb9⟩)
      go_ret
      exact ⟨rfl, HB.out.trans (hb9.mono HB.out.size)⟩

theorem halves_any (w : World) (a : Option Addr) (cap : Nat) (L : List Ln) (h : Lns w a L) (hm : L.length ≤ maxLen) :
    Calls Try.prog 3 #[.slice a L.length cap] w fun e w' => e = .returned (.bool true) ∧ Below w.heap.size w w' := by
  by_cases hl : L.length ≤ 100
  · by_cases hy : mayA L = true
    · exact halves_yes w a cap L h hl hy
    · exact halves_no w a cap L h hl (by simpa using hy)
  · exact halves_far w a cap L (by omega) hm

end Go.Proofs.Ytbmefipobnamjaa
