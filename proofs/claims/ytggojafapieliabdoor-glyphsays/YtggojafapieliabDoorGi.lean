/-
  Fonts that are no great ones.
-/
import Derived.Test.YtggojafapieliabDoorGh
import Derived.Test.YtggojafapieliabDoorCk
import Derived.Test.YtggojafapieliabDoorCq
import Derived.Maps.RangeWalk
import Derived.LoopN
namespace Go.Proofs.YtggojafapieliabDoor
open Go.RowKit Go.Maps
set_option maxRecDepth 100000
attribute [local go_sem ↓] Go.wp_at_zero Go.wp_at_succ

set_option maxHeartbeats 1000000 in
theorem lightFont (F : Ft) (mw mn : Value) (al : Option Addr) (cap : Nat) (w : World) (hF : FtIn w F mw mn al) :
    Calls Tryd.prog 16 #[ftV F mw mn al cap] w fun e w' => (e = .returned (.bool false) ∨ e = .returned (.bool true) ∧ spFault F.l F.wide = 0) ∧ Below w.heap.size w w' := by
  obtain ⟨hA, ⟨k1, hk1⟩, ⟨k2, hk2⟩, hnr⟩ := hF
  have HLS := hid (fun W (hB : Below w.heap.size w W) => light_sp F.l al cap W hA.len (hA.sp.later hB))
  have HSF := hid (fun W (hB : Below w.heap.size w W) (h60 : ∀ x ∈ F.l, x.s.size ≤ 60) => rFault_sp F.l F.wide al cap W (hA.sp.later hB) h60)
  have HK1 := hid hk1
  have HK2 := hid hk2
  have HNR := hid hnr
  clear hA hk1 hk2 hnr
  obtain ⟨wide, wf, miss, nf, l⟩ := F
  simp only at *
  unfold ftV
  simp only
  go_enter Tryd.func16, Tryd.ntmps16
  go_wp2_with (go_at_call 13; fail)
  go_at_call 13
  refine (HLS.out _ (by go_grown)).mono ?_
  rintro e w1 ⟨he, hb1⟩
  have A1 := At.later (At.new w #[.bool wide, mw, .int .i64 miss, mn, .slice al l.length cap] 44 rfl) hb1
  have hB1 : Below w.heap.size w w1 := chn' (by go_grown) hb1
  have z1 := A1.lt
  have c0 := A1.cell 0
  have c1 := A1.cell 1
  have c3 := A1.cell 3
  have c4 := A1.cell 4
  simp at c0 c1 c3 c4
  clear hb1
  rcases he with rfl | ⟨rfl, h60⟩
  · go_wp2_with fail
    go_ret
    exact ⟨.inl rfl, hB1⟩
  have e1 := fun ty => HK1.out w1 ty hB1
  have e2 := fun ty => HK2.out w1 ty hB1
  have H60 := hid h60
  clear h60
  by_cases h4 : (400 : Int) < k1
  · go_wp2_with fail
    go_ret
    exact ⟨.inl rfl, hB1⟩
  by_cases h3 : (300 : Int) < k2
  · go_wp2_with fail
    go_ret
    exact ⟨.inl rfl, hB1⟩
  rcases HNR.out with rfl | ⟨H, b, n, D, rfl, hown⟩
  · have hrg := run_range_nilMap (P := Tryd.prog) w1 42 3 9 Tryd.underlying42
    have hnx : ∀ ty, (Instr.next (.pointer (some ⟨w1.heap.size, 0, none⟩)) false ty).run Tryd.prog (w1.alloc (.mapIter none 0 #[] 0)) = _ := fun ty => run_next_nilMap w1 ty 0 0 #[]
    go_wp2_with fail
    refine wp_loop_rounds 1 ?_
    rw [rounds_succ]
    have hBn : Below w.heap.size w (w1.alloc (.mapIter none 0 #[] 0)) := hB1.alloc hB1.size _
    go_wp2_with (go_at_call 28; fail)
    go_at_call 28
    refine (HSF.out _ (hBn) H60.out).mono ?_
    rintro e w5 ⟨rfl, hb5⟩
    have hB5 := chn' (hBn) hb5
    by_cases hf : spFault l wide = 0
    · rw [hf]
      go_wp2_with fail
      go_ret
      exact ⟨.inr ⟨rfl, hf⟩, hB5⟩
    · have hf' : (spFault l wide == 0) = false := by simpa using hf
      go_wp2_with fail
      go_ret
      exact ⟨.inl (by first | rfl | (simp [hf]; done) | (rw [hf'])), hB5⟩
  · have hown1 := kept_below hown hB1
    go_wp2_with (first | (at_range; refine wpList_range_own _ rfl _ 42 rfl 3 9 lawI Tryd.underlying42 _ b n _ rfl hown1 ?_; intro w2 hrg2 hg2 hs2) | go_in)
    go_frame
    go_loopw [4] (fun _ wr => ∃ (left : Lit → Bool) (cnt : Nat), wr.ranges Tryd.prog 3 (plainElem Tryd.prog 9) b w1.heap.size n D left cnt ∧ Below w1.heap.size w1 wr) (fun _ wr => wr.rangeLeft b w1.heap.size)
    case atStart => exact ⟨_, _, hrg2, (Below.refl _ _).grown hg2 (Nat.le_refl _) (fun k h => by cases h)⟩
    case round =>
      obtain ⟨left, cnt, hrg, hB⟩ := hrel
      have d0 := (hB.cell (p := ⟨w.heap.size, 0, none⟩) z1).trans c0
      have d4 := (hB.cell (p := ⟨w.heap.size, 4, none⟩) z1).trans c4
      have zz := Nat.lt_of_lt_of_le z1 hB.size
      have hBn := chn' hB1 hB
      go_wp2_with (first | (at_next; refine wpList_next_ranges_is _ rfl _ rfl 3 9 .i64 lawI Tryd.underlying3 Tryd.underlying9 b w1.heap.size n _ _ _ rfl hrg ?_ ?_) | go_in)
      · intro _ _
        go_wp2_with (go_at_call 28; fail)
        go_at_call 28
        refine (HSF.out _ (hBn) H60.out).mono ?_
        rintro e w5 ⟨rfl, hb5⟩
        have hB5 := chn' (hBn) hb5
        by_cases hf : spFault l wide = 0
        · rw [hf]
          go_wp2_with fail
          go_ret
          exact ⟨.inr ⟨rfl, hf⟩, hB5⟩
        · have hf' : (spFault l wide == 0) = false := by simpa using hf
          go_wp2_with fail
          go_ret
          exact ⟨.inl (by first | rfl | (simp [hf]; done) | (rw [hf'])), hB5⟩
      · intro x c w3 cnt3 hwx hwc hlx hat hrg3 hlt hg3 hs3 hen
        have hB3 := hB.grown hg3 hB.size (fun k hk => by cases hk; exact Nat.le_refl _)
        by_cases h100 : (100 : Int) < c.size
        · go_wp2_with fail
          go_ret
          exact ⟨.inl rfl, chn' hB1 hB3⟩
        · go_wp2_with fail
          go_roundw
          case rel => exact ⟨_, cnt3, hrg3, hB3⟩
          case measure => rw [hrg3.left_eq, hrg.left_eq]; exact hlt
end Go.Proofs.YtggojafapieliabDoor
