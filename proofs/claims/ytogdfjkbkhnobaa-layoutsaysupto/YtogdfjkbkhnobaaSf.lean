/-
  A row is put in order, those of one rank as they stood (slices.stableCmpFunc, slices.SortStableFunc).
-/
import Derived.Test.YtogdfjkbkhnobaaSd
import Derived.Test.YtogdfjkbkhnobaaSe
namespace Go.Proofs.Ytogdfjkbkhnobaa
open Go.Shelf Go.RowKit Go.Lib Go.Sort
set_option maxRecDepth 1000000

section
variable {w0 : World} {blk off : Nat} {d0 : Array Int} {key : Int → Int} {tie : Int → Int → Prop} {g : Nat} {cb : Array Value} {cf : Int → Int → Int} {N : Nat}

set_option maxHeartbeats 16000000 in
theorem stable_says (R : Row1 enI w0 blk off d0) (hsz : d0.size < 1000000) (ht : TieOk tie) (eg : ∀ args w, (callFunc g args).run Try.prog w = .ok (.enter g args) w) (hC : CmpOk g cb cf N w0 blk off d0.size) (hcf : ∀ x y, cf x y < 0 ↔ key x < key y)
    (cap : Nat) (f : Nat → Int) (w : World) (S : Put w0 blk off d0.size f w) (hr : ∀ k, k < d0.size → 0 ≤ f k ∧ f k < N) (hT : Told tie f 0 d0.size) :
    Calls Try.prog 28 #[.slice (some ⟨blk, off, none⟩) d0.size cap, .int .i64 d0.size, .func (.func g) #[] cb] w fun e w' => e = .returned (.tuple #[]) ∧ ∃ f', Put w0 blk off d0.size f' w' ∧ Prm f f' 0 d0.size ∧ Srt key tie f' 0 d0.size := by
  have S0 := hid S
  have HR := hid hr
  have HTo := hid hT
  have HI := hid (fun a b f w => ins_says (a := a) (b := b) (f := f) (w := w) R hsz ht eg hC hcf cap)
  have HM := hid (fun a m b (h : b - a < d0.size + 1) => sym_says R hsz ht eg hC hcf cap (d0.size + 1) a m b h)
  clear S hC hr ht hT hcf R eg
  generalize d0.size = n at *
  go_enter Try.func28, Try.ntmps28
  go_wp2_with fail
  go_loopg [7, 8] n (fun g1 va vb wr => ∃ (t a b : Nat) (h : Nat → Int), va = .int .i64 a ∧ vb = .int .i64 b ∧ (a ≤ t * 20 ∧ t * 20 ≤ a) ∧ (b ≤ a + 20 ∧ a + 20 ≤ b) ∧ a ≤ n ∧ n - a ≤ g1 ∧ Hid (Put w0 blk off n h wr) ∧ Hid (In20 key tie f h n t))
  case atStart => exact ⟨0, 0, 20, f, rfl, rfl, by omega, by omega, by omega, by omega, S0, hid (In20.start HTo.out)⟩
  case round =>
    clear S0
    obtain ⟨t, a, b, h, rfl, rfl, ha, hb, htn, hg1, S1, H⟩ := hrel
    have ea : a = t * 20 := by omega
    have HRh := hid (rng_of H.out.prm (Nat.le_refl _) HR.out)
    by_cases hlt : b ≤ n
    · have hltz : (b : Int) ≤ (n : Int) := by omega
      have hT1 := hid (show Told tie h a b from by have := H.out.need HTo.out hlt; rw [← ea] at this; exact this)
      have EA := hid ea
      clear ea
      go_wp2_with (go_at_call 30; refine (HI.out a b h _ S1.out HRh.out (by omega) hlt hT1.out).mono ?_; rintro e w1 ⟨rfl, h1, q1, q2, q3⟩; have S2 := hid q1; have P2 := hid (And.intro q2 q3); clear q1 q2 q3)
      go_roundg (n - b)
      case measure => omega
      case rel =>
        refine ⟨t + 1, b, b + 20, h1, rfl, by go_num, by omega, by omega, hlt, by omega, S2, hid (H.out.step ?_ ?_ (by omega))⟩
        · have q := P2.out.1
          have e1 : b = t * 20 + 20 := by omega
          rw [EA.out, e1] at q; exact q
        · have q := P2.out.2
          have e1 : b = t * 20 + 20 := by omega
          rw [EA.out, e1] at q; exact q
    · have hltz : ¬ (b : Int) ≤ (n : Int) := by omega
      have hT1 := hid (show Told tie h a n from by have := H.out.need HTo.out (Nat.le_refl n); rw [← ea] at this; exact this)
      have EA := hid ea
      clear ea
      go_wp2_with (go_at_call 30; refine (HI.out a n h _ S1.out HRh.out htn (Nat.le_refl _) hT1.out).mono ?_; rintro e w1 ⟨rfl, h1, q1, q2, q3⟩; have S2 := hid q1; have P2 := hid (And.intro q2 q3); clear q1 q2 q3)
      have B2 := hid (show Blk key tie h1 20 n ∧ Prm f h1 0 n from by
        have q := P2.out
        rw [EA.out] at q
        exact H.out.last q.1 q.2 (by omega) (by omega))
      clear P2 H HRh hT1 EA S1
      clear ha hb htn hg1 hltz hlt
      go_loopg [6, 7, 8, 9] n (fun g1 vs _ _ _ wr => ∃ (s : Nat) (h : Nat → Int), vs = .int .i64 s ∧ 0 < s ∧ s ≤ 2000000 ∧ n - s ≤ g1 ∧ Hid (Put w0 blk off n h wr) ∧ Hid (Blk key tie h s n ∧ Prm f h 0 n))
      case atStart => exact ⟨20, h1, rfl, by omega, by omega, by omega, S2, B2⟩
      case round =>
        clear S2 B2
        obtain ⟨s, h, rfl, hs0, hs1, hg1, S1, H⟩ := hrel
        have HRh := hid (rng_of H.out.2 (Nat.le_refl _) HR.out)
        by_cases hlt : s < n
        · have hltz : (s : Int) < (n : Int) := by omega
          go_wp2_with fail
          go_loopg [7, 8] n (fun g1 va vb wr => ∃ (t a b : Nat) (h2 : Nat → Int), va = .int .i64 a ∧ vb = .int .i64 b ∧ (b ≤ a + 2 * s ∧ a + 2 * s ≤ b) ∧ a ≤ n ∧ n - a ≤ g1 ∧ Hid (a = t * (2 * s)) ∧ Hid (Put w0 blk off n h2 wr) ∧ Hid (Mg key tie h h2 s n t))
          case atStart => exact ⟨0, 0, 2 * s, h, rfl, by first | rfl | go_num | (congr 1; omega), by omega, by omega, by omega, hid (by rw [Nat.zero_mul]), S1, hid (Mg.start H.out.1)⟩
          case round =>
            clear S1
            obtain ⟨t, a, b, h2, rfl, rfl, hb, han, hg2, EA, S1, H2⟩ := hrel
            have HR2 := hid (rng_of H2.out.prm (Nat.le_refl _) HRh.out)
            obtain ⟨m, hm1, hm2⟩ : ∃ m, m ≤ a + s ∧ a + s ≤ m := ⟨_, Nat.le_refl _, Nat.le_refl _⟩
            have EM := hid (show (a : Int) + (s : Int) = (m : Int) by omega)
            by_cases hlt2 : b ≤ n
            · have hltz2 : (b : Int) ≤ (n : Int) := by omega
              have N1 := hid (show Srt key tie h2 a m ∧ Srt key tie h2 m b ∧ Crs tie h2 a m b from by
                have q := H2.out.need (b := b) H.out.1 (by have := EA.out; omega) hlt2
                rw [← EA.out] at q
                have e1 : a + s = m := by omega
                have e2 : min (a + s) n = m := by omega
                rw [e2, e1] at q
                exact q)
              go_wp2_with (go_at_call 31; rw [EM.out]; refine (HM.out a m b (by omega) h2 _ S1.out HR2.out (by omega) (by omega) hlt2 N1.out.1 N1.out.2.1 N1.out.2.2).mono ?_; rintro e w1 ⟨rfl, h3, q1, q2, q3⟩; have S2 := hid q1; have P2 := hid (And.intro q2 q3); clear q1 q2 q3)
              go_roundg (n - b)
              case measure => omega
              case rel =>
                refine ⟨t + 1, b, b + 2 * s, h3, rfl, by first | rfl | go_num | (congr 1; omega), by omega, hlt2, by omega, hid ?_, S2, hid (H2.out.step ?_ ?_ ?_)⟩
                · have q := EA.out; rw [Nat.succ_mul, ← q]; omega
                · have q := P2.out.1
                  have e1 : b = t * (2 * s) + 2 * s := by have := EA.out; omega
                  rw [EA.out, e1] at q; exact q
                · have q := P2.out.2
                  have e1 : b = t * (2 * s) + 2 * s := by have := EA.out; omega
                  rw [EA.out, e1] at q; exact q
                · have := EA.out; omega
            · have hltz2 : ¬ (b : Int) ≤ (n : Int) := by omega
              by_cases hmn : m < n
              · have N1 := hid (show Srt key tie h2 a m ∧ Srt key tie h2 m n ∧ Crs tie h2 a m n from by
                  have q := H2.out.need (b := n) H.out.1 (by have := EA.out; omega) (Nat.le_refl _)
                  rw [← EA.out] at q
                  have e1 : a + s = m := by omega
                  have e2 : min (a + s) n = m := by omega
                  rw [e2, e1] at q
                  exact q)
                have hmz : (a : Int) + (s : Int) < (n : Int) := by omega
                go_wp2_with (go_at_call 31; rw [EM.out]; refine (HM.out a m n (by omega) h2 _ S1.out HR2.out (by omega) hmn (Nat.le_refl _) N1.out.1 N1.out.2.1 N1.out.2.2).mono ?_; rintro e w1 ⟨rfl, h3, q1, q2, q3⟩; have S2 := hid q1; have P2 := hid (And.intro q2 q3); clear q1 q2 q3)
                go_roundg (n - 2 * s)
                case measure => omega
                case rel =>
                  have L := H2.out.last (g' := h3) (by have q := P2.out.1; rw [EA.out] at q; exact q) (by have q := P2.out.2; rw [EA.out] at q; exact q) (by rw [← EA.out]; exact han) (by rw [← EA.out]; omega)
                  exact ⟨2 * s, h3, by first | rfl | go_num | (congr 1; omega), by omega, by omega, by omega, S2, hid ⟨L.1, H.out.2.trans L.2⟩⟩
              · have hmz : ¬ (a : Int) + (s : Int) < (n : Int) := by omega
                go_wp2_with fail
                go_roundg (n - 2 * s)
                case measure => omega
                case rel =>
                  have N1 := H2.out.need (b := n) H.out.1 (by have := EA.out; omega) (Nat.le_refl _)
                  have L := H2.out.last (g' := h2) (Prm.refl _ _ _) (by have q := N1.1; rw [← EA.out] at q ⊢; have e2 : min (a + s) n = n := (by omega); rw [e2] at q; exact q) (by rw [← EA.out]; exact han) (by rw [← EA.out]; omega)
                  exact ⟨2 * s, h2, by first | rfl | go_num | (congr 1; omega), by omega, by omega, by omega, S1, hid ⟨L.1, H.out.2.trans L.2⟩⟩
        · have hltz : ¬ (s : Int) < (n : Int) := by omega
          go_wp2_with fail
          go_end0
          exact ⟨rfl, h, S1.out, H.out.2, H.out.1.whole (by omega)⟩

theorem sortStable_says (R : Row1 enI w0 blk off d0) (hsz : d0.size < 1000000) (ht : TieOk tie) (eg : ∀ args w, (callFunc g args).run Try.prog w = .ok (.enter g args) w) (hC : CmpOk g cb cf N w0 blk off d0.size) (hcf : ∀ x y, cf x y < 0 ↔ key x < key y)
    (cap : Nat) (w : World) (f : Nat → Int) (S : Put w0 blk off d0.size f w) (hr : ∀ k, k < d0.size → 0 ≤ f k ∧ f k < N) (hT : Told tie f 0 d0.size) :
    Calls Try.prog 23 #[.slice (some ⟨blk, off, none⟩) d0.size cap, .func (.func g) #[] cb] w fun e w' => e = .returned (.tuple #[]) ∧ ∃ f', Put w0 blk off d0.size f' w' ∧ Prm f f' 0 d0.size ∧ Srt key tie f' 0 d0.size := by
  have H := hid (stable_says R hsz ht eg hC hcf cap f w S hr hT)
  clear hC S hr ht hT hcf R eg
  go_enter Try.func23, Try.ntmps23
  go_wp2_with (go_at_call 28; refine H.out.mono ?_; rintro e w1 ⟨rfl, h⟩; have H2 := hid h; clear h)
  go_end0
  exact ⟨rfl, H2.out⟩
end
end Go.Proofs.Ytogdfjkbkhnobaa
