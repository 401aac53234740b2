/-
  Contracts over values that only look: how heavy one is (some number), how many parts it has and how deep it is.
-/
import Derived.Test.YtidillbpoklnjaaDoorVh
namespace Go.Proofs.YtidillbpoklnjaaDoor
open Go.RowKit
set_option maxRecDepth 100000

set_option maxHeartbeats 1000000 in
theorem weight_step (d : Nat) (most : Int)
    (ih : ∀ (v : V) (cs : List Value) (w : World), RepN d w v cs → Calls Tryd.prog 62 #[.agg cs.toArray, .int .i64 most] w fun e w' => (∃ z : Int, e = .returned (.int .i64 z)) ∧ Below w.heap.size w w')
    (v : V) (cs : List Value) (w : World) (hv : RepN (d + 1) w v cs) :
    Calls Tryd.prog 62 #[.agg cs.toArray, .int .i64 most] w fun e w' => (∃ z : Int, e = .returned (.int .i64 z)) ∧ Below w.heap.size w w' := by
  obtain ⟨al, af, cl, cf, rfl, ⟨hs, hl, hf⟩, hL, hF⟩ := hv
  unfold maxLen at hs hl hf
  have HL := hid hL
  have HF := hid hF
  clear hL hF
  go_enter Tryd.func62, Tryd.ntmps62
  go_upto_block 0 with fail
  go_cut [5] from 12 to 32 (fun t wx => ∃ z : Int, t = .int .i64 z ∧ BoxV wx w.heap.size v al af cl cf ∧ Below w.heap.size w wx)
  case first =>
    go_wp2_with fail
    go_loopw [5, 6] (fun t i wr => ∃ (j : Nat) (z : Int), i = .int .i64 j ∧ t = .int .i64 z ∧ j ≤ v.l.length ∧ BoxV wr w.heap.size v al af cl cf ∧ Below w.heap.size w wr) (fun _ i _ => v.l.length - (intOf i).toNat)
    case atStart => exact ⟨0, _, rfl, rfl, Nat.zero_le _, At.new _ _ _ rfl, by go_grown⟩
    case round =>
      obtain ⟨j, z, rfl, rfl, hj, hA, hB⟩ := hrel
      have mc := hA.cell
      have mz := hA.lt
      by_cases hjl : j < v.l.length
      · have hjl' : (j : Int) < v.l.length := by omega
        by_cases hzm : z ≤ most
        · obtain ⟨b, off, c, rfl, hbl, hc, hr⟩ := HL.out j v.l[j] (List.getElem?_eq_getElem hjl)
          have hr' := hr.later (hB : Below w.heap.size w wr)
          have hbr : b < wr.heap.size := Nat.lt_of_lt_of_le hbl hB.size
          obtain ⟨k1, n1, s1, a1, l1, c1, a2, l2, c2, rfl, g0, g1, g2, g3, g4⟩ := rep_cells hr' (hc.later hbl hB)
          have HR := hid hr'
          clear hr hr' hc
          go_wp2_with (go_at_call 62; refine (ih v.l[j] _ _ HR.out).mono ?_; rintro e w1 ⟨⟨z1, rfl⟩, hb1⟩)
          go_roundw
          case rel => exact ⟨j + 1, _, by go_num, rfl, by omega, hA.later hb1, hB.trans (hb1.mono hB.size)⟩
          case measure => simp [intOf]; omega
        · go_wp2_with fail
          go_meet
          case rel => exact ⟨z, rfl, hA, hB⟩
      · have hjl' : ¬ (j : Int) < v.l.length := by omega
        go_wp2_with fail
        go_meet
        case rel => exact ⟨z, rfl, hA, hB⟩
  case rest =>
    obtain ⟨z, rfl, hA, hB⟩ := hcut
    go_wp2_with fail
    go_loopw [5, 7] (fun t i wq => ∃ (p : Nat) (y : Int), i = .int .i64 p ∧ t = .int .i64 y ∧ p ≤ v.f.length ∧ BoxV wq w.heap.size v al af cl cf ∧ Below w.heap.size w wq) (fun _ i _ => v.f.length - (intOf i).toNat)
    case atStart => exact ⟨0, z, rfl, rfl, Nat.zero_le _, hA, hB⟩
    case round =>
      clear hA hB
      obtain ⟨p, y, rfl, rfl, hp, hA, hB⟩ := hrel
      have mc := hA.cell
      have mz := hA.lt
      by_cases hpl : p < v.f.length
      · have hpl' : (p : Int) < v.f.length := by omega
        by_cases hym : y ≤ most
        · obtain ⟨b, off, c, rfl, hbl, hnm, hcn, hc, hr⟩ := HF.out p v.f[p] (List.getElem?_eq_getElem hpl)
          have hr' := hr.later hB
          have hbr : b < wr.heap.size := Nat.lt_of_lt_of_le hbl hB.size
          obtain ⟨k1, n1, s1, a1, l1, c1, a2, l2, c2, rfl, g0, g1, g2, g3, g4⟩ := rep_cells hr' (hc.later hbl hB)
          have hcn' := (hB.cell (p := ⟨b, off + p * 6, none⟩) hbl).trans hcn
          have HR := hid hr'
          clear hr hr' hc hcn
          generalize v.f[p].1 = nm at *
          go_upto_block 3 with fail
          go_cut [5] from 33 to 62 (fun t wx => ∃ z : Int, t = .int .i64 z ∧ BoxV wx w.heap.size v al (some ⟨b, off, none⟩) cl cf ∧ Below w.heap.size w wx)
          case first =>
            go_wp2_with fail
            go_region_with (go_at_call 62; refine (ih v.f[p].2 _ _ (HR.out.later (by go_grown))).mono ?_; rintro e w1 ⟨⟨z1, rfl⟩, hb1⟩; have x1 := hb1.cell (p := ⟨b, off + p * 6, none⟩) hbr; have x2 := fun o => hb1.cell (p := ⟨w.heap.size, o, none⟩) mz)
            all_goals
              go_wp2_with fail
              go_meet
              case rel => exact ⟨_, rfl, hA.later (below_undrew hb1), hB.trans ((below_undrew hb1).mono hB.size)⟩
          case rest =>
            clear hA hB mc mz
            obtain ⟨y', rfl, hA, hB⟩ := hcut
            go_wp2_with fail
            go_roundw
            case rel => exact ⟨p + 1, y', by go_num, rfl, by omega, hA, hB⟩
            case measure => simp [intOf]; omega
        · go_wp2_with fail
          go_ret
          exact ⟨⟨y, rfl⟩, hB⟩
      · have hpl' : ¬ (p : Int) < v.f.length := by omega
        go_wp2_with fail
        go_ret
        exact ⟨⟨y, rfl⟩, hB⟩
theorem weight_any (d : Nat) (most : Int) : ∀ (v : V) (cs : List Value) (w : World), RepN d w v cs → Calls Tryd.prog 62 #[.agg cs.toArray, .int .i64 most] w fun e w' => (∃ z : Int, e = .returned (.int .i64 z)) ∧ Below w.heap.size w w' := by
  induction d with
  | zero => intro v cs w h; exact h.elim
  | succ d ih => exact fun v cs w h => weight_step d most ih v cs w h
theorem LightValue_any {d : Nat} {v : V} {cs : List Value} {w : World} (hv : RepN d w v cs) : Calls Tryd.prog 30 #[.agg cs.toArray] w fun e w' => (∃ r : Bool, e = .returned (.bool r)) ∧ Below w.heap.size w w' := by
  obtain ⟨e, rfl⟩ := hv.inv
  have H := hid hv
  obtain ⟨al, af, cl, cf, rfl, _⟩ := hv
  go_enter Tryd.func30, Tryd.ntmps30
  go_wp2_with (go_at_call 62; refine (weight_any _ 6000 v _ _ (H.out.later (by go_grown))).mono ?_; rintro e w1 ⟨⟨z1, rfl⟩, hb1⟩)
  go_ret
  exact ⟨⟨_, rfl⟩, Below.trans (by go_grown) (hb1.mono (by simp))⟩

end Go.Proofs.YtidillbpoklnjaaDoor
