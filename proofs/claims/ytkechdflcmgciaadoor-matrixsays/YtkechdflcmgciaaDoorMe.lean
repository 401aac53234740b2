/-
  Contracts: the least box round points: of the program and of the document's answer, the same.
-/
import Derived.Test.YtkechdflcmgciaaDoorMd
namespace Go.Proofs.YtkechdflcmgciaaDoor
open Go.RowKit
set_option maxRecDepth 100000

def boxV (ps : List (Int × Int)) : Value := .agg #[.int .i64 (minX ps), .int .i64 (minY ps), .int .i64 (maxX ps), .int .i64 (maxY ps)]

set_option maxHeartbeats 400000 in
theorem around_zero (a : Option Addr) (c : Nat) (w : World) :
    Calls Tryd.prog 25 #[.slice a 0 c] w fun e w' => e = .returned (.agg #[.int .i64 0, .int .i64 0, .int .i64 0, .int .i64 0]) ∧ Below w.heap.size w w' := by
  go_enter Tryd.func25, Tryd.ntmps25
  go_wp2
  refine bodyPost_ret (v := .agg #[.int .i64 0, .int .i64 0, .int .i64 0, .int .i64 0]) (by simp [results, Tryd.results25, go_sem]) rfl ⟨rfl, ?_⟩
  go_grown
set_option maxHeartbeats 400000 in
theorem raround_zero (a : Option Addr) (c : Nat) (w : World) :
    Calls Tryd.prog 26 #[.slice a 0 c] w fun e w' => e = .returned (.agg #[.int .i64 0, .int .i64 0, .int .i64 0, .int .i64 0]) ∧ Below w.heap.size w w' := by
  go_enter Tryd.func26, Tryd.ntmps26
  go_wp2
  refine bodyPost_ret (v := .agg #[.int .i64 0, .int .i64 0, .int .i64 0, .int .i64 0]) (by simp [results, Tryd.results26, go_sem]) rfl ⟨rfl, ?_⟩
  go_grown

theorem fieldX (x y : Int) (w : World) : (Instr.field 55 (.agg #[.int .i64 x, .int .i64 y]) 0).run Tryd.prog w = .ok (.int .i64 x) w := by kernel_rfl
theorem fieldY (x y : Int) (w : World) : (Instr.field 55 (.agg #[.int .i64 x, .int .i64 y]) 1).run Tryd.prog w = .ok (.int .i64 y) w := by kernel_rfl
set_option maxHeartbeats 1000000 in
theorem around_pos (b off n c : Nat) (ps : List (Int × Int)) (w : World) (hn : ps.length = n) (h1 : 1 ≤ n) (h2 : n ≤ 1000) (hp : PtsAt w b off ps) :
    Calls Tryd.prog 25 #[.slice (some ⟨b, off, none⟩) n c] w fun e w' => e = .returned (boxV ps) ∧ Below w.heap.size w w' := by
  have hn0 : ((n : Int) == 0) = false := by simp; omega
  have HP := hid hp
  have fx := fieldX
  have fy := fieldY
  clear hp
  go_enter Tryd.func25, Tryd.ntmps25
  go_wp2_with (go_at_call 60; fail)
  go_at_call 60
  refine (minFuncX b off n c ps _ hn h1 h2 (HP.out.later (by go_grown))).mono ?_
  rintro e w1 ⟨⟨y1, rfl⟩, hb1⟩
  have R1 := (Holds.new w #[.int .i64 0, .int .i64 0, .int .i64 0, .int .i64 0] 52).later hb1
  have B1 : Below w.heap.size w w1 := Below.trans (by go_grown) (hb1.mono (by simp))
  clear hb1
  go_wp2_with (go_at_call 60; fail)
  go_at_call 60
  refine (minFuncY b off n c ps _ hn h1 h2 (HP.out.later B1)).mono ?_
  rintro e w2 ⟨⟨x1, rfl⟩, hb2⟩
  have R2 := R1.later hb2
  have B2 : Below w.heap.size w w2 := B1.trans (hb2.mono B1.size)
  clear hb2 R1 B1
  go_wp2_with (go_at_call 61; fail)
  go_at_call 61
  refine (maxFuncX b off n c ps _ hn h1 h2 (HP.out.later B2)).mono ?_
  rintro e w3 ⟨⟨y2, rfl⟩, hb3⟩
  have R3 := R2.later hb3
  have B3 : Below w.heap.size w w3 := B2.trans (hb3.mono B2.size)
  clear hb3 R2 B2
  go_wp2_with (go_at_call 61; fail)
  go_at_call 61
  refine (maxFuncY b off n c ps _ hn h1 h2 (HP.out.later B3)).mono ?_
  rintro e w4 ⟨⟨x2, rfl⟩, hb4⟩
  have R4 := R3.later hb4
  have B4 : Below w.heap.size w w4 := B3.trans (hb4.mono B3.size)
  clear hb4 R3 B3
  obtain ⟨rz, rc, rf⟩ := id R4
  go_wp2
  refine bodyPost_ret (v := boxV ps) (by simp [results, Tryd.results25, go_sem, rc, boxV]) rfl ⟨rfl, ?_⟩
  exact (((B4.setCell (by simp) _).setCell (by simp) _).setCell (by simp) _).setCell (by simp) _

theorem ones4 (a b c d : Int) : (#[.int .i64 a, .int .i64 b, .int .i64 c, .int .i64 d] : Array Value).all (·.oneCell') = true := by simp [Value.oneCell']
theorem At.other {w : World} {b b' o : Nat} {t : TypeId} {cs : Array Value} {v : Value} (h : At w b t cs) (hne : b ≠ b') : At (w.setCell ⟨b', o, none⟩ v) b t cs :=
  (heap_setCell_other w ⟨b', o, none⟩ b v hne).trans h
theorem At.set4 {w : World} {b : Nat} {t : TypeId} {a c d e p q r s : Value} (h : At w b t #[a, c, d, e]) :
    At ((((w.setCell ⟨b, 0, none⟩ p).setCell ⟨b, 1, none⟩ q).setCell ⟨b, 2, none⟩ r).setCell ⟨b, 3, none⟩ s) b t #[p, q, r, s] := by
  have h1 := heap_setCell_same w b 0 _ t p h
  have h2 := heap_setCell_same _ b 1 _ t q h1
  have h3 := heap_setCell_same _ b 2 _ t r h2
  exact heap_setCell_same _ b 3 _ t s h3
theorem minI (u x : Int) : (if u < x then u else x) = min x u := by split <;> omega
theorem maxI (u x : Int) : (if x < u then u else x) = max x u := by split <;> omega
set_option maxHeartbeats 4000000 in
theorem raround_pos (b off n c : Nat) (ps : List (Int × Int)) (w : World) (hn : ps.length = n) (h1 : 1 ≤ n) (h2 : n ≤ 1000) (hp : PtsAt w b off ps) :
    Calls Tryd.prog 26 #[.slice (some ⟨b, off, none⟩) n c] w fun e w' => e = .returned (boxV ps) ∧ Below w.heap.size w w' := by
  have hn0 : ((n : Int) == 0) = false := by simp; omega
  obtain ⟨c0, c1⟩ := hp.2 0 (by omega)
  rw [Nat.zero_mul, Nat.add_zero] at c0 c1
  have hb0 := hp.1
  have hne : b ≠ w.heap.size + 1 := by omega
  have HP := hid hp
  have HX := hid (show ps.take 1 = [ps.getD 0 (0, 0)] by rw [show ps.take 1 = ps.take 0 ++ [ps.getD 0 (0, 0)] from take_pt ps 0 (by omega)]; rfl)
  generalize ps.getD 0 (0, 0) = q at *
  obtain ⟨x0, y0⟩ := q
  dsimp only at c0 c1
  have hpos : (0 : Int) < n := by omega
  clear hp
  go_enter Tryd.func26, Tryd.ntmps26
  go_wp2
  go_region
  all_goals
    go_wp2
    go_loopw [4] (fun i wr => ∃ (k : Nat) (m0 m1 m2 m3 : Int), 1 ≤ k ∧ k ≤ n ∧ i = .int .i64 k ∧ (minX (ps.take k) = m0 ∧ minY (ps.take k) = m1 ∧ maxX (ps.take k) = m2 ∧ maxY (ps.take k) = m3) ∧ At wr w.heap.size 52 #[.int .i64 0, .int .i64 0, .int .i64 0, .int .i64 0] ∧ At wr (w.heap.size + 1) 52 #[.int .i64 m0, .int .i64 m1, .int .i64 m2, .int .i64 m3] ∧ Below w.heap.size w wr) (fun i _ => n - (intOf i).toNat)
    case atStart => exact ⟨1, x0, y0, x0, y0, Nat.le_refl _, h1, rfl, by rw [HX.out]; exact ⟨rfl, rfl, rfl, rfl⟩, ((At.new _ _ _ rfl).alloc _).drew, (At.new _ _ _ (by simp)).drew, by go_grown⟩
    case round =>
      obtain ⟨k, m0, m1, m2, m3, hk1, hk, rfl, hmm, hR, hM, hB⟩ := hrel
      have HPr := HP.out.later hB
      by_cases hlt : k < n
      · have hlt' : (k : Int) < n := by omega
        obtain ⟨d0, d1⟩ := HPr.2 k (by omega)
        have HT := hid (take_pt ps k (by omega))
        have mc := hM.cell
        have mf := hM.free
        have HH := hid hM
        have HR := hid hR
        have HN := hid (take_ne hk1 hlt hn)
        have HMM := hid hmm
        generalize ps.getD k (0, 0) = q at *
        obtain ⟨u, v⟩ := q
        dsimp only at d0 d1
        have i0 := minI u m0
        have i1 := minI v m1
        have i2 := maxI u m2
        have i3 := maxI v m3
        generalize hq0 : min m0 u = q0 at *
        generalize hq1 : min m1 v = q1 at *
        generalize hq2 : max m2 u = q2 at *
        generalize hq3 : max m3 v = q3 at *
        have HQ := hid (show minX (ps.take (k + 1)) = q0 ∧ minY (ps.take (k + 1)) = q1 ∧ maxX (ps.take (k + 1)) = q2 ∧ maxY (ps.take (k + 1)) = q3 by
          rw [HT.out, minX_snoc _ _ HN.out, minY_snoc _ _ HN.out, maxX_snoc _ _ HN.out, maxY_snoc _ _ HN.out, HMM.out.1, HMM.out.2.1, HMM.out.2.2.1, HMM.out.2.2.2]; exact ⟨hq0, hq1, hq2, hq3⟩)
        clear HPr hM hR hmm hq0 hq1 hq2 hq3
        go_wp2
        go_region
        all_goals
          go_wp2
          go_region
          all_goals
            go_wp2
            go_region
            all_goals
              go_wp2
              go_region
              all_goals
                go_wp2
                go_roundw
                case rel =>
                  refine ⟨k + 1, q0, q1, q2, q3, by omega, by omega, by go_num, HQ.out, ?_, ?_, ?_⟩
                  · exact (((HR.out.other (by omega)).other (by omega)).other (by omega)).other (by omega)
                  · exact HH.out.set4
                  · exact ((((hB.setCell (by simp) _).setCell (by simp) _).setCell (by simp) _).setCell (by simp) _).drew.drew.drew.drew
                case measure => simp [intOf]; omega
      · have hR' := hR
        have mc := hM.cell
        have rc := hR.cell
        have rf := hR.free
        have HMM := hid hmm
        clear HPr hmm
        go_wp2_with (refine wpList_store_row rfl 52 (.tmp 2) (.tmp 68) rfl w.heap.size #[.int .i64 m0, .int .i64 m1, .int .i64 m2, .int .i64 m3] rfl rfl 52 #[.int .i64 0, .int .i64 0, .int .i64 0, .int .i64 0] hR' (by kernel_rfl) rfl (ones4 _ _ _ _) ?_)
        have rc2 := (hR'.setRow #[.int .i64 m0, .int .i64 m1, .int .i64 m2, .int .i64 m3]).cell
        refine bodyPost_ret (v := .agg #[.int .i64 m0, .int .i64 m1, .int .i64 m2, .int .i64 m3]) (by simp [results, Tryd.results26, go_sem, rc2]) rfl ⟨?_, ?_⟩
        · obtain ⟨g0, g1, g2, g3⟩ := HMM.out
          rw [List.take_of_length_le (by omega)] at g0 g1 g2 g3
          unfold boxV; rw [g0, g1, g2, g3]
        · exact below_setRow hB (Nat.le_refl _) _

/-- The least box, of whatever points. -/
theorem minX_nil : minX [] = 0 := rfl
end Go.Proofs.YtkechdflcmgciaaDoor
