/-
  More contracts of the least box round points, of the program and of the document's answer.
-/
import Derived.Test.YtkechdflcmgciaaDoorMc
namespace Go.Proofs.YtkechdflcmgciaaDoor
open Go.RowKit
set_option maxRecDepth 100000

set_option maxHeartbeats 2000000 in
theorem minFuncY (b off n c : Nat) (ps : List (Int × Int)) (w : World) (hn : ps.length = n) (h1 : 1 ≤ n) (h2 : n ≤ 1000) (hp : PtsAt w b off ps) :
    Calls Tryd.prog 60 #[.slice (some ⟨b, off, none⟩) n c, .func (.func 59) #[] #[]] w fun e w' => (∃ x, e = .returned (.agg #[.int .i64 x, .int .i64 (minY ps)])) ∧ Below w.heap.size w w' := by
  obtain ⟨c0, c1⟩ := hp.2 0 (by omega)
  rw [Nat.zero_mul, Nat.add_zero] at c0 c1
  have hb0 := hp.1
  have HP := hid hp
  have hx0 : minY (ps.take 1) = (ps.getD 0 (0, 0)).2 := by
    rw [show ps.take 1 = ps.take 0 ++ [ps.getD 0 (0, 0)] from take_pt ps 0 (by omega)]; rfl
  have HX := hid hx0
  generalize (ps.getD 0 (0, 0)).1 = x0 at *
  generalize (ps.getD 0 (0, 0)).2 = y0 at *
  clear hp hx0
  go_enter Tryd.func60, Tryd.ntmps60
  go_wp2
  go_loopw [6] (fun i wr => ∃ (k : Nat) (x y : Int), 1 ≤ k ∧ k ≤ n ∧ i = .int .i64 k ∧ minY (ps.take k) = y ∧ Holds wr w.heap.size #[.int .i64 0, .int .i64 0] ∧ Holds wr (w.heap.size + 1) #[.int .i64 x, .int .i64 y] ∧ Below w.heap.size w wr) (fun i _ => n - (intOf i).toNat)
  case atStart => exact ⟨1, x0, y0, Nat.le_refl _, h1, rfl, HX.out, (Holds.new _ _ _).alloc _, (Holds.new _ _ _).at (by simp), by go_grown⟩
  case round =>
    obtain ⟨k, x, y, hk1, hk, rfl, hmin, hR, hM, hB⟩ := hrel
    have HPr := HP.out.later hB
    by_cases hlt : k < n
    · have hlt' : (k : Int) < n := by omega
      obtain ⟨d0, d1⟩ := HPr.2 k (by omega)
      have HT := hid (take_pt ps k (by omega))
      have hbr := HPr.1
      have HQ := hid HPr
      obtain ⟨mz, mc, mf⟩ := id hM
      have HM := hid hmin
      have HH := hid hM
      have HR := hid hR
      generalize ps.getD k (0, 0) = q at *
      obtain ⟨u, v⟩ := q
      dsimp only at d0 d1
      clear HPr hM hR hmin
      by_cases hc : v < y
      · have hneg : cmpI v y < 0 := cmpI_neg.2 hc
        go_wp2
        go_region_with (go_at_call 59; refine (byY_any _ _ _ _ _).mono ?_; rintro e w1 ⟨rfl, hb1⟩)
        all_goals
          have hb2 := below_undrew hb1
          have Hm := HH.out.later hb2
          have Hr := HR.out.later hb2
          have g0 := (hb2.cell (p := ⟨b, off + k * 2, none⟩) hbr).trans d0
          have g1 := (hb2.cell (p := ⟨b, off + k * 2 + 1, none⟩) hbr).trans d1
          obtain ⟨mz1, mc1, mf1⟩ := id Hm
          clear mz mc mf hb1 d0 d1
          go_wp2
          go_roundw
          case rel => exact ⟨k + 1, u, v, by omega, by omega, by go_num, by rw [HT.out, minY_snoc _ _ (take_ne hk1 hlt hn), HM.out]; simp; omega, (Hr.other (by omega)).other (by omega), Hm.set2, ((hB.trans (hb2.mono hB.size)).setCell (by simp) _).setCell (by simp) _⟩
          case measure => simp [intOf]; omega
      · have hneg : ¬ cmpI v y < 0 := fun h => hc (cmpI_neg.1 h)
        go_wp2
        go_region_with (go_at_call 59; refine (byY_any _ _ _ _ _).mono ?_; rintro e w1 ⟨rfl, hb1⟩)
        all_goals
          have hb2 := below_undrew hb1
          go_wp2
          go_roundw
          case rel => exact ⟨k + 1, x, y, by omega, by omega, by go_num, by rw [HT.out, minY_snoc _ _ (take_ne hk1 hlt hn), HM.out]; simp; omega, HR.out.later hb2, HH.out.later hb2, hB.trans (hb2.mono hB.size)⟩
          case measure => simp [intOf]; omega
    · have HM := hid hmin
      have HR := hid hR
      obtain ⟨mz, mc, mf⟩ := id hM
      obtain ⟨rz, rc, rf⟩ := id hR
      clear HPr hmin hM hR
      go_wp2
      refine bodyPost_ret (v := .agg #[.int .i64 x, .int .i64 y]) (by simp [results, Tryd.results60, go_sem, rc]) rfl ⟨⟨x, ?_⟩, ?_⟩
      · have := HM.out
        rw [List.take_of_length_le (by omega)] at this
        rw [this]
      · exact (hB.setCell (by simp) _).setCell (by simp) _
set_option maxHeartbeats 2000000 in
theorem maxFuncX (b off n c : Nat) (ps : List (Int × Int)) (w : World) (hn : ps.length = n) (h1 : 1 ≤ n) (h2 : n ≤ 1000) (hp : PtsAt w b off ps) :
    Calls Tryd.prog 61 #[.slice (some ⟨b, off, none⟩) n c, .func (.func 57) #[] #[]] w fun e w' => (∃ y, e = .returned (.agg #[.int .i64 (maxX ps), .int .i64 y])) ∧ Below w.heap.size w w' := by
  obtain ⟨c0, c1⟩ := hp.2 0 (by omega)
  rw [Nat.zero_mul, Nat.add_zero] at c0 c1
  have hb0 := hp.1
  have HP := hid hp
  have hx0 : maxX (ps.take 1) = (ps.getD 0 (0, 0)).1 := by
    rw [show ps.take 1 = ps.take 0 ++ [ps.getD 0 (0, 0)] from take_pt ps 0 (by omega)]; rfl
  have HX := hid hx0
  generalize (ps.getD 0 (0, 0)).1 = x0 at *
  generalize (ps.getD 0 (0, 0)).2 = y0 at *
  clear hp hx0
  go_enter Tryd.func61, Tryd.ntmps61
  go_wp2
  go_loopw [6] (fun i wr => ∃ (k : Nat) (x y : Int), 1 ≤ k ∧ k ≤ n ∧ i = .int .i64 k ∧ maxX (ps.take k) = x ∧ Holds wr w.heap.size #[.int .i64 0, .int .i64 0] ∧ Holds wr (w.heap.size + 1) #[.int .i64 x, .int .i64 y] ∧ Below w.heap.size w wr) (fun i _ => n - (intOf i).toNat)
  case atStart => exact ⟨1, x0, y0, Nat.le_refl _, h1, rfl, HX.out, (Holds.new _ _ _).alloc _, (Holds.new _ _ _).at (by simp), by go_grown⟩
  case round =>
    obtain ⟨k, x, y, hk1, hk, rfl, hmin, hR, hM, hB⟩ := hrel
    have HPr := HP.out.later hB
    by_cases hlt : k < n
    · have hlt' : (k : Int) < n := by omega
      obtain ⟨d0, d1⟩ := HPr.2 k (by omega)
      have HT := hid (take_pt ps k (by omega))
      have hbr := HPr.1
      have HQ := hid HPr
      obtain ⟨mz, mc, mf⟩ := id hM
      have HM := hid hmin
      have HH := hid hM
      have HR := hid hR
      generalize ps.getD k (0, 0) = q at *
      obtain ⟨u, v⟩ := q
      dsimp only at d0 d1
      clear HPr hM hR hmin
      by_cases hc : x < u
      · have hneg : 0 < cmpI u x := cmpI_pos.2 hc
        go_wp2
        go_region_with (go_at_call 57; refine (byX_any _ _ _ _ _).mono ?_; rintro e w1 ⟨rfl, hb1⟩)
        all_goals
          have hb2 := below_undrew hb1
          have Hm := HH.out.later hb2
          have Hr := HR.out.later hb2
          have g0 := (hb2.cell (p := ⟨b, off + k * 2, none⟩) hbr).trans d0
          have g1 := (hb2.cell (p := ⟨b, off + k * 2 + 1, none⟩) hbr).trans d1
          obtain ⟨mz1, mc1, mf1⟩ := id Hm
          clear mz mc mf hb1 d0 d1
          go_wp2
          go_roundw
          case rel => exact ⟨k + 1, u, v, by omega, by omega, by go_num, by rw [HT.out, maxX_snoc _ _ (take_ne hk1 hlt hn), HM.out]; simp; omega, (Hr.other (by omega)).other (by omega), Hm.set2, ((hB.trans (hb2.mono hB.size)).setCell (by simp) _).setCell (by simp) _⟩
          case measure => simp [intOf]; omega
      · have hneg : ¬ 0 < cmpI u x := fun h => hc (cmpI_pos.1 h)
        go_wp2
        go_region_with (go_at_call 57; refine (byX_any _ _ _ _ _).mono ?_; rintro e w1 ⟨rfl, hb1⟩)
        all_goals
          have hb2 := below_undrew hb1
          go_wp2
          go_roundw
          case rel => exact ⟨k + 1, x, y, by omega, by omega, by go_num, by rw [HT.out, maxX_snoc _ _ (take_ne hk1 hlt hn), HM.out]; simp; omega, HR.out.later hb2, HH.out.later hb2, hB.trans (hb2.mono hB.size)⟩
          case measure => simp [intOf]; omega
    · have HM := hid hmin
      have HR := hid hR
      obtain ⟨mz, mc, mf⟩ := id hM
      obtain ⟨rz, rc, rf⟩ := id hR
      clear HPr hmin hM hR
      go_wp2
      refine bodyPost_ret (v := .agg #[.int .i64 x, .int .i64 y]) (by simp [results, Tryd.results61, go_sem, rc]) rfl ⟨⟨y, ?_⟩, ?_⟩
      · have := HM.out
        rw [List.take_of_length_le (by omega)] at this
        rw [this]
      · exact (hB.setCell (by simp) _).setCell (by simp) _
set_option maxHeartbeats 2000000 in
theorem maxFuncY (b off n c : Nat) (ps : List (Int × Int)) (w : World) (hn : ps.length = n) (h1 : 1 ≤ n) (h2 : n ≤ 1000) (hp : PtsAt w b off ps) :
    Calls Tryd.prog 61 #[.slice (some ⟨b, off, none⟩) n c, .func (.func 59) #[] #[]] w fun e w' => (∃ x, e = .returned (.agg #[.int .i64 x, .int .i64 (maxY ps)])) ∧ Below w.heap.size w w' := by
  obtain ⟨c0, c1⟩ := hp.2 0 (by omega)
  rw [Nat.zero_mul, Nat.add_zero] at c0 c1
  have hb0 := hp.1
  have HP := hid hp
  have hx0 : maxY (ps.take 1) = (ps.getD 0 (0, 0)).2 := by
    rw [show ps.take 1 = ps.take 0 ++ [ps.getD 0 (0, 0)] from take_pt ps 0 (by omega)]; rfl
  have HX := hid hx0
  generalize (ps.getD 0 (0, 0)).1 = x0 at *
  generalize (ps.getD 0 (0, 0)).2 = y0 at *
  clear hp hx0
  go_enter Tryd.func61, Tryd.ntmps61
  go_wp2
  go_loopw [6] (fun i wr => ∃ (k : Nat) (x y : Int), 1 ≤ k ∧ k ≤ n ∧ i = .int .i64 k ∧ maxY (ps.take k) = y ∧ Holds wr w.heap.size #[.int .i64 0, .int .i64 0] ∧ Holds wr (w.heap.size + 1) #[.int .i64 x, .int .i64 y] ∧ Below w.heap.size w wr) (fun i _ => n - (intOf i).toNat)
  case atStart => exact ⟨1, x0, y0, Nat.le_refl _, h1, rfl, HX.out, (Holds.new _ _ _).alloc _, (Holds.new _ _ _).at (by simp), by go_grown⟩
  case round =>
    obtain ⟨k, x, y, hk1, hk, rfl, hmin, hR, hM, hB⟩ := hrel
    have HPr := HP.out.later hB
    by_cases hlt : k < n
    · have hlt' : (k : Int) < n := by omega
      obtain ⟨d0, d1⟩ := HPr.2 k (by omega)
      have HT := hid (take_pt ps k (by omega))
      have hbr := HPr.1
      have HQ := hid HPr
      obtain ⟨mz, mc, mf⟩ := id hM
      have HM := hid hmin
      have HH := hid hM
      have HR := hid hR
      generalize ps.getD k (0, 0) = q at *
      obtain ⟨u, v⟩ := q
      dsimp only at d0 d1
      clear HPr hM hR hmin
      by_cases hc : y < v
      · have hneg : 0 < cmpI v y := cmpI_pos.2 hc
        go_wp2
        go_region_with (go_at_call 59; refine (byY_any _ _ _ _ _).mono ?_; rintro e w1 ⟨rfl, hb1⟩)
        all_goals
          have hb2 := below_undrew hb1
          have Hm := HH.out.later hb2
          have Hr := HR.out.later hb2
          have g0 := (hb2.cell (p := ⟨b, off + k * 2, none⟩) hbr).trans d0
          have g1 := (hb2.cell (p := ⟨b, off + k * 2 + 1, none⟩) hbr).trans d1
          obtain ⟨mz1, mc1, mf1⟩ := id Hm
          clear mz mc mf hb1 d0 d1
          go_wp2
          go_roundw
          case rel => exact ⟨k + 1, u, v, by omega, by omega, by go_num, by rw [HT.out, maxY_snoc _ _ (take_ne hk1 hlt hn), HM.out]; simp; omega, (Hr.other (by omega)).other (by omega), Hm.set2, ((hB.trans (hb2.mono hB.size)).setCell (by simp) _).setCell (by simp) _⟩
          case measure => simp [intOf]; omega
      · have hneg : ¬ 0 < cmpI v y := fun h => hc (cmpI_pos.1 h)
        go_wp2
        go_region_with (go_at_call 59; refine (byY_any _ _ _ _ _).mono ?_; rintro e w1 ⟨rfl, hb1⟩)
        all_goals
          have hb2 := below_undrew hb1
          go_wp2
          go_roundw
          case rel => exact ⟨k + 1, x, y, by omega, by omega, by go_num, by rw [HT.out, maxY_snoc _ _ (take_ne hk1 hlt hn), HM.out]; simp; omega, HR.out.later hb2, HH.out.later hb2, hB.trans (hb2.mono hB.size)⟩
          case measure => simp [intOf]; omega
    · have HM := hid hmin
      have HR := hid hR
      obtain ⟨mz, mc, mf⟩ := id hM
      obtain ⟨rz, rc, rf⟩ := id hR
      clear HPr hmin hM hR
      go_wp2
      refine bodyPost_ret (v := .agg #[.int .i64 x, .int .i64 y]) (by simp [results, Tryd.results61, go_sem, rc]) rfl ⟨⟨x, ?_⟩, ?_⟩
      · have := HM.out
        rw [List.take_of_length_le (by omega)] at this
        rw [this]
      · exact (hB.setCell (by simp) _).setCell (by simp) _
end Go.Proofs.YtkechdflcmgciaaDoor
