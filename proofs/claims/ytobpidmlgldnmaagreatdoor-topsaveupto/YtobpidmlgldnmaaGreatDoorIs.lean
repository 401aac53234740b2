/-
  Joined: Md, Me, Is.
-/
import Derived.Test.YtobpidmlgldnmaaGreatDoorIb
import Derived.Test.YtobpidmlgldnmaaGreatDoorIl

/-
  More contracts of the least box round points, of the program and of the document's answer.
-/
namespace Go.Proofs.YtobpidmlgldnmaaGreatDoor
open Go.RowKit
set_option maxRecDepth 100000

set_option maxHeartbeats 2000000 in
theorem minFuncY (b off n c : Nat) (ps : List (Int × Int)) (w : World) (hn : ps.length = n) (h1 : 1 ≤ n) (h2 : n ≤ 1000) (hp : PtsAt w b off ps) :
    Calls Tryz.prog 152 #[.slice (some ⟨b, off, none⟩) n c, .func (.func 151) #[] #[]] w fun e w' => (∃ x, e = .returned (.agg #[.int .i64 x, .int .i64 (minY ps)])) ∧ Below w.heap.size w w' := by
  obtain ⟨c0, c1⟩ := hp.2 0 (by omega)
  rw [Nat.zero_mul, Nat.add_zero] at c0 c1
  have hb0 := hp.1
  have HP := hid hp
  have hx0 : minY (ps.take 1) = (ps.getD 0 (0, 0)).2 := by
    rw [show ps.take 1 = ps.take 0 ++ [ps.getD 0 (0, 0)] from take_pt ps 0 (by omega)]; rfl
  have HX := hid hx0
  generalize (ps.getD 0 (0, 0)).1 = x0 at *
  generalize (ps.getD 0 (0, 0)).2 = y0 at *
  clear hp hx0
  go_enter Tryz.func152, Tryz.ntmps152
  go_wp2
  go_loopw [6] (fun i wr => ∃ (k : Nat) (x y : Int), 1 ≤ k ∧ k ≤ n ∧ i = .int .i64 k ∧ minY (ps.take k) = y ∧ Holds wr w.heap.size #[.int .i64 0, .int .i64 0] ∧ Holds wr (w.heap.size + 1) #[.int .i64 x, .int .i64 y] ∧ Below w.heap.size w wr) (fun i _ => n - (intOf i).toNat)
  case atStart => exact ⟨1, x0, y0, Nat.le_refl _, h1, rfl, HX.out, (Holds.new _ _ _).alloc _, (Holds.new _ _ _).at (by simp), by go_grown⟩
  case round =>
    obtain ⟨k, x, y, hk1, hk, rfl, hmin, hR, hM, hB⟩ := hrel
    have HPr := HP.out.later hB
    by_cases hlt : k < n
    · have hlt' : (k : Int) < n := by omega
      obtain ⟨d0, d1⟩ := HPr.2 k (by omega)
      have HT := hid (take_pt ps k (by omega))
      have hbr := HPr.1
      have HQ := hid HPr
      obtain ⟨mz, mc, mf⟩ := id hM
      have HM := hid hmin
      have HH := hid hM
      have HR := hid hR
      generalize ps.getD k (0, 0) = q at *
      obtain ⟨u, v⟩ := q
      dsimp only at d0 d1
      clear HPr hM hR hmin
      by_cases hc : v < y
      · have hneg : cmpI v y < 0 := cmpI_neg.2 hc
        go_wp2
        go_region_with (go_at_call 151; refine (byY_any _ _ _ _ _).mono ?_; rintro e w1 ⟨rfl, hb1⟩)
        all_goals
          have hb2 := below_undrew hb1
          have Hm := HH.out.later hb2
          have Hr := HR.out.later hb2
          have g0 := (hb2.cell (p := ⟨b, off + k * 2, none⟩) hbr).trans d0
          have g1 := (hb2.cell (p := ⟨b, off + k * 2 + 1, none⟩) hbr).trans d1
          obtain ⟨mz1, mc1, mf1⟩ := id Hm
          clear mz mc mf hb1 d0 d1
          go_wp2
          go_roundw
          case rel => exact ⟨k + 1, u, v, by omega, by omega, by go_num, by rw [HT.out, minY_snoc _ _ (take_ne hk1 hlt hn), HM.out]; simp; omega, (Hr.other (by omega)).other (by omega), Hm.set2, ((hB.trans (hb2.mono hB.size)).setCell (by simp) _).setCell (by simp) _⟩
          case measure => simp [intOf]; omega
      · have hneg : ¬ cmpI v y < 0 := fun h => hc (cmpI_neg.1 h)
        go_wp2
        go_region_with (go_at_call 151; refine (byY_any _ _ _ _ _).mono ?_; rintro e w1 ⟨rfl, hb1⟩)
        all_goals
          have hb2 := below_undrew hb1
          go_wp2
          go_roundw
          case rel => exact ⟨k + 1, x, y, by omega, by omega, by go_num, by rw [HT.out, minY_snoc _ _ (take_ne hk1 hlt hn), HM.out]; simp; omega, HR.out.later hb2, HH.out.later hb2, hB.trans (hb2.mono hB.size)⟩
          case measure => simp [intOf]; omega
    · have HM := hid hmin
      have HR := hid hR
      obtain ⟨mz, mc, mf⟩ := id hM
      obtain ⟨rz, rc, rf⟩ := id hR
      clear HPr hmin hM hR
      go_wp2
      refine bodyPost_ret (v := .agg #[.int .i64 x, .int .i64 y]) (by simp [results, Tryz.results152, go_sem, rc]) rfl ⟨⟨x, ?_⟩, ?_⟩
      · have := HM.out
        rw [List.take_of_length_le (by omega)] at this
        rw [this]
      · exact (hB.setCell (by simp) _).setCell (by simp) _
set_option maxHeartbeats 2000000 in
theorem maxFuncX (b off n c : Nat) (ps : List (Int × Int)) (w : World) (hn : ps.length = n) (h1 : 1 ≤ n) (h2 : n ≤ 1000) (hp : PtsAt w b off ps) :
    Calls Tryz.prog 153 #[.slice (some ⟨b, off, none⟩) n c, .func (.func 149) #[] #[]] w fun e w' => (∃ y, e = .returned (.agg #[.int .i64 (maxX ps), .int .i64 y])) ∧ Below w.heap.size w w' := by
  obtain ⟨c0, c1⟩ := hp.2 0 (by omega)
  rw [Nat.zero_mul, Nat.add_zero] at c0 c1
  have hb0 := hp.1
  have HP := hid hp
  have hx0 : maxX (ps.take 1) = (ps.getD 0 (0, 0)).1 := by
    rw [show ps.take 1 = ps.take 0 ++ [ps.getD 0 (0, 0)] from take_pt ps 0 (by omega)]; rfl
  have HX := hid hx0
  generalize (ps.getD 0 (0, 0)).1 = x0 at *
  generalize (ps.getD 0 (0, 0)).2 = y0 at *
  clear hp hx0
  go_enter Tryz.func153, Tryz.ntmps153
  go_wp2
  go_loopw [6] (fun i wr => ∃ (k : Nat) (x y : Int), 1 ≤ k ∧ k ≤ n ∧ i = .int .i64 k ∧ maxX (ps.take k) = x ∧ Holds wr w.heap.size #[.int .i64 0, .int .i64 0] ∧ Holds wr (w.heap.size + 1) #[.int .i64 x, .int .i64 y] ∧ Below w.heap.size w wr) (fun i _ => n - (intOf i).toNat)
  case atStart => exact ⟨1, x0, y0, Nat.le_refl _, h1, rfl, HX.out, (Holds.new _ _ _).alloc _, (Holds.new _ _ _).at (by simp), by go_grown⟩
  case round =>
    obtain ⟨k, x, y, hk1, hk, rfl, hmin, hR, hM, hB⟩ := hrel
    have HPr := HP.out.later hB
    by_cases hlt : k < n
    · have hlt' : (k : Int) < n := by omega
      obtain ⟨d0, d1⟩ := HPr.2 k (by omega)
      have HT := hid (take_pt ps k (by omega))
      have hbr := HPr.1
      have HQ := hid HPr
      obtain ⟨mz, mc, mf⟩ := id hM
      have HM := hid hmin
      have HH := hid hM
      have HR := hid hR
      generalize ps.getD k (0, 0) = q at *
      obtain ⟨u, v⟩ := q
      dsimp only at d0 d1
      clear HPr hM hR hmin
      by_cases hc : x < u
      · have hneg : 0 < cmpI u x := cmpI_pos.2 hc
        go_wp2
        go_region_with (go_at_call 149; refine (byX_any _ _ _ _ _).mono ?_; rintro e w1 ⟨rfl, hb1⟩)
        all_goals
          have hb2 := below_undrew hb1
          have Hm := HH.out.later hb2
          have Hr := HR.out.later hb2
          have g0 := (hb2.cell (p := ⟨b, off + k * 2, none⟩) hbr).trans d0
          have g1 := (hb2.cell (p := ⟨b, off + k * 2 + 1, none⟩) hbr).trans d1
          obtain ⟨mz1, mc1, mf1⟩ := id Hm
          clear mz mc mf hb1 d0 d1
          go_wp2
          go_roundw
          case rel => exact ⟨k + 1, u, v, by omega, by omega, by go_num, by rw [HT.out, maxX_snoc _ _ (take_ne hk1 hlt hn), HM.out]; simp; omega, (Hr.other (by omega)).other (by omega), Hm.set2, ((hB.trans (hb2.mono hB.size)).setCell (by simp) _).setCell (by simp) _⟩
          case measure => simp [intOf]; omega
      · have hneg : ¬ 0 < cmpI u x := fun h => hc (cmpI_pos.1 h)
        go_wp2
        go_region_with (go_at_call 149; refine (byX_any _ _ _ _ _).mono ?_; rintro e w1 ⟨rfl, hb1⟩)
        all_goals
          have hb2 := below_undrew hb1
          go_wp2
          go_roundw
          case rel => exact ⟨k + 1, x, y, by omega, by omega, by go_num, by rw [HT.out, maxX_snoc _ _ (take_ne hk1 hlt hn), HM.out]; simp; omega, HR.out.later hb2, HH.out.later hb2, hB.trans (hb2.mono hB.size)⟩
          case measure => simp [intOf]; omega
    · have HM := hid hmin
      have HR := hid hR
      obtain ⟨mz, mc, mf⟩ := id hM
      obtain ⟨rz, rc, rf⟩ := id hR
      clear HPr hmin hM hR
      go_wp2
      refine bodyPost_ret (v := .agg #[.int .i64 x, .int .i64 y]) (by simp [results, Tryz.results153, go_sem, rc]) rfl ⟨⟨y, ?_⟩, ?_⟩
      · have := HM.out
        rw [List.take_of_length_le (by omega)] at this
        rw [this]
      · exact (hB.setCell (by simp) _).setCell (by simp) _
set_option maxHeartbeats 2000000 in
theorem maxFuncY (b off n c : Nat) (ps : List (Int × Int)) (w : World) (hn : ps.length = n) (h1 : 1 ≤ n) (h2 : n ≤ 1000) (hp : PtsAt w b off ps) :
    Calls Tryz.prog 153 #[.slice (some ⟨b, off, none⟩) n c, .func (.func 151) #[] #[]] w fun e w' => (∃ x, e = .returned (.agg #[.int .i64 x, .int .i64 (maxY ps)])) ∧ Below w.heap.size w w' := by
  obtain ⟨c0, c1⟩ := hp.2 0 (by omega)
  rw [Nat.zero_mul, Nat.add_zero] at c0 c1
  have hb0 := hp.1
  have HP := hid hp
  have hx0 : maxY (ps.take 1) = (ps.getD 0 (0, 0)).2 := by
    rw [show ps.take 1 = ps.take 0 ++ [ps.getD 0 (0, 0)] from take_pt ps 0 (by omega)]; rfl
  have HX := hid hx0
  generalize (ps.getD 0 (0, 0)).1 = x0 at *
  generalize (ps.getD 0 (0, 0)).2 = y0 at *
  clear hp hx0
  go_enter Tryz.func153, Tryz.ntmps153
  go_wp2
  go_loopw [6] (fun i wr => ∃ (k : Nat) (x y : Int), 1 ≤ k ∧ k ≤ n ∧ i = .int .i64 k ∧ maxY (ps.take k) = y ∧ Holds wr w.heap.size #[.int .i64 0, .int .i64 0] ∧ Holds wr (w.heap.size + 1) #[.int .i64 x, .int .i64 y] ∧ Below w.heap.size w wr) (fun i _ => n - (intOf i).toNat)
  case atStart => exact ⟨1, x0, y0, Nat.le_refl _, h1, rfl, HX.out, (Holds.new _ _ _).alloc _, (Holds.new _ _ _).at (by simp), by go_grown⟩
  case round =>
    obtain ⟨k, x, y, hk1, hk, rfl, hmin, hR, hM, hB⟩ := hrel
    have HPr := HP.out.later hB
    by_cases hlt : k < n
    · have hlt' : (k : Int) < n := by omega
      obtain ⟨d0, d1⟩ := HPr.2 k (by omega)
      have HT := hid (take_pt ps k (by omega))
      have hbr := HPr.1
      have HQ := hid HPr
      obtain ⟨mz, mc, mf⟩ := id hM
      have HM := hid hmin
      have HH := hid hM
      have HR := hid hR
      generalize ps.getD k (0, 0) = q at *
      obtain ⟨u, v⟩ := q
      dsimp only at d0 d1
      clear HPr hM hR hmin
      by_cases hc : y < v
      · have hneg : 0 < cmpI v y := cmpI_pos.2 hc
        go_wp2
        go_region_with (go_at_call 151; refine (byY_any _ _ _ _ _).mono ?_; rintro e w1 ⟨rfl, hb1⟩)
        all_goals
          have hb2 := below_undrew hb1
          have Hm := HH.out.later hb2
          have Hr := HR.out.later hb2
          have g0 := (hb2.cell (p := ⟨b, off + k * 2, none⟩) hbr).trans d0
          have g1 := (hb2.cell (p := ⟨b, off + k * 2 + 1, none⟩) hbr).trans d1
          obtain ⟨mz1, mc1, mf1⟩ := id Hm
          clear mz mc mf hb1 d0 d1
          go_wp2
          go_roundw
          case rel => exact ⟨k + 1, u, v, by omega, by omega, by go_num, by rw [HT.out, maxY_snoc _ _ (take_ne hk1 hlt hn), HM.out]; simp; omega, (Hr.other (by omega)).other (by omega), Hm.set2, ((hB.trans (hb2.mono hB.size)).setCell (by simp) _).setCell (by simp) _⟩
          case measure => simp [intOf]; omega
      · have hneg : ¬ 0 < cmpI v y := fun h => hc (cmpI_pos.1 h)
        go_wp2
        go_region_with (go_at_call 151; refine (byY_any _ _ _ _ _).mono ?_; rintro e w1 ⟨rfl, hb1⟩)
        all_goals
          have hb2 := below_undrew hb1
          go_wp2
          go_roundw
          case rel => exact ⟨k + 1, x, y, by omega, by omega, by go_num, by rw [HT.out, maxY_snoc _ _ (take_ne hk1 hlt hn), HM.out]; simp; omega, HR.out.later hb2, HH.out.later hb2, hB.trans (hb2.mono hB.size)⟩
          case measure => simp [intOf]; omega
    · have HM := hid hmin
      have HR := hid hR
      obtain ⟨mz, mc, mf⟩ := id hM
      obtain ⟨rz, rc, rf⟩ := id hR
      clear HPr hmin hM hR
      go_wp2
      refine bodyPost_ret (v := .agg #[.int .i64 x, .int .i64 y]) (by simp [results, Tryz.results153, go_sem, rc]) rfl ⟨⟨x, ?_⟩, ?_⟩
      · have := HM.out
        rw [List.take_of_length_le (by omega)] at this
        rw [this]
      · exact (hB.setCell (by simp) _).setCell (by simp) _
end Go.Proofs.YtobpidmlgldnmaaGreatDoor

/-
  Contracts: the least box round points: of the program and of the document's answer, the same.
-/
namespace Go.Proofs.YtobpidmlgldnmaaGreatDoor
open Go.RowKit
set_option maxRecDepth 100000

def boxV (ps : List (Int × Int)) : Value := .agg #[.int .i64 (minX ps), .int .i64 (minY ps), .int .i64 (maxX ps), .int .i64 (maxY ps)]

theorem fieldX (x y : Int) (w : World) : (Instr.field 44 (.agg #[.int .i64 x, .int .i64 y]) 0).run Tryz.prog w = .ok (.int .i64 x) w := by kernel_rfl
theorem fieldY (x y : Int) (w : World) : (Instr.field 44 (.agg #[.int .i64 x, .int .i64 y]) 1).run Tryz.prog w = .ok (.int .i64 y) w := by kernel_rfl
set_option maxHeartbeats 1000000 in
theorem around_pos (b off n c : Nat) (ps : List (Int × Int)) (w : World) (hn : ps.length = n) (h1 : 1 ≤ n) (h2 : n ≤ 1000) (hp : PtsAt w b off ps) :
    Calls Tryz.prog 130 #[.slice (some ⟨b, off, none⟩) n c] w fun e w' => e = .returned (boxV ps) ∧ Below w.heap.size w w' := by
  have hn0 : ((n : Int) == 0) = false := by simp; omega
  have HP := hid hp
  have fx := fieldX
  have fy := fieldY
  clear hp
  go_enter Tryz.func130, Tryz.ntmps130
  go_wp2_with (go_at_call 152; fail)
  go_at_call 152
  refine (minFuncX b off n c ps _ hn h1 h2 (HP.out.later (by go_grown))).mono ?_
  rintro e w1 ⟨⟨y1, rfl⟩, hb1⟩
  have R1 := (Holds.new w #[.int .i64 0, .int .i64 0, .int .i64 0, .int .i64 0] 46).later hb1
  have B1 : Below w.heap.size w w1 := Below.trans (by go_grown) (hb1.mono (by simp))
  clear hb1
  go_wp2_with (go_at_call 152; fail)
  go_at_call 152
  refine (minFuncY b off n c ps _ hn h1 h2 (HP.out.later B1)).mono ?_
  rintro e w2 ⟨⟨x1, rfl⟩, hb2⟩
  have R2 := R1.later hb2
  have B2 : Below w.heap.size w w2 := B1.trans (hb2.mono B1.size)
  clear hb2 R1 B1
  go_wp2_with (go_at_call 153; fail)
  go_at_call 153
  refine (maxFuncX b off n c ps _ hn h1 h2 (HP.out.later B2)).mono ?_
  rintro e w3 ⟨⟨y2, rfl⟩, hb3⟩
  have R3 := R2.later hb3
  have B3 : Below w.heap.size w w3 := B2.trans (hb3.mono B2.size)
  clear hb3 R2 B2
  go_wp2_with (go_at_call 153; fail)
  go_at_call 153
  refine (maxFuncY b off n c ps _ hn h1 h2 (HP.out.later B3)).mono ?_
  rintro e w4 ⟨⟨x2, rfl⟩, hb4⟩
  have R4 := R3.later hb4
  have B4 : Below w.heap.size w w4 := B3.trans (hb4.mono B3.size)
  clear hb4 R3 B3
  obtain ⟨rz, rc, rf⟩ := id R4
  go_wp2
  refine bodyPost_ret (v := boxV ps) (by simp [results, Tryz.results130, go_sem, rc, boxV]) rfl ⟨rfl, ?_⟩
  exact (((B4.setCell (by simp) _).setCell (by simp) _).setCell (by simp) _).setCell (by simp) _

theorem At.other {w : World} {b b' o : Nat} {t : TypeId} {cs : Array Value} {v : Value} (h : At w b t cs) (hne : b ≠ b') : At (w.setCell ⟨b', o, none⟩ v) b t cs :=
  (heap_setCell_other w ⟨b', o, none⟩ b v hne).trans h
theorem At.set4 {w : World} {b : Nat} {t : TypeId} {a c d e p q r s : Value} (h : At w b t #[a, c, d, e]) :
    At ((((w.setCell ⟨b, 0, none⟩ p).setCell ⟨b, 1, none⟩ q).setCell ⟨b, 2, none⟩ r).setCell ⟨b, 3, none⟩ s) b t #[p, q, r, s] := by
  have h1 := heap_setCell_same w b 0 _ t p h
  have h2 := heap_setCell_same _ b 1 _ t q h1
  have h3 := heap_setCell_same _ b 2 _ t r h2
  exact heap_setCell_same _ b 3 _ t s h3
end Go.Proofs.YtobpidmlgldnmaaGreatDoor

/-
  A painter: where a glyph's corners are.
-/
namespace Go.Proofs.YtobpidmlgldnmaaGreatDoor
open Go.RowKit
set_option maxRecDepth 100000

/-- The corners' row, k of them taken. -/
def Gst (m : M6) (g : Sp) : Nat → Array Value → Prop
  | 0, cs => cs = #[.int .i64 0, .int .i64 0, .int .i64 g.t, .int .i64 0, .int .i64 0, .int .i64 1000, .int .i64 g.t, .int .i64 1000]
  | 1, cs => ∃ p0 : Int × Int, appX m 0 0 = .ok p0 ∧ cs = #[.int .i64 p0.1, .int .i64 p0.2, .int .i64 g.t, .int .i64 0, .int .i64 0, .int .i64 1000, .int .i64 g.t, .int .i64 1000]
  | 2, cs => ∃ p0 p1 : Int × Int, appX m 0 0 = .ok p0 ∧ appX m g.t 0 = .ok p1 ∧ cs = #[.int .i64 p0.1, .int .i64 p0.2, .int .i64 p1.1, .int .i64 p1.2, .int .i64 0, .int .i64 1000, .int .i64 g.t, .int .i64 1000]
  | 3, cs => ∃ p0 p1 p2 : Int × Int, appX m 0 0 = .ok p0 ∧ appX m g.t 0 = .ok p1 ∧ appX m 0 1000 = .ok p2 ∧ cs = #[.int .i64 p0.1, .int .i64 p0.2, .int .i64 p1.1, .int .i64 p1.2, .int .i64 p2.1, .int .i64 p2.2, .int .i64 g.t, .int .i64 1000]
  | 4, cs => ∃ p0 p1 p2 p3 : Int × Int, appX m 0 0 = .ok p0 ∧ appX m g.t 0 = .ok p1 ∧ appX m 0 1000 = .ok p2 ∧ appX m g.t 1000 = .ok p3 ∧ cs = #[.int .i64 p0.1, .int .i64 p0.2, .int .i64 p1.1, .int .i64 p1.2, .int .i64 p2.1, .int .i64 p2.2, .int .i64 p3.1, .int .i64 p3.2]
  | _, _ => False
theorem below_undrew' {w w' : World} (h : Below w.drew.heap.size w.drew w') : Below w.heap.size w w' := below_undrew h
def GlA (e : Ending) (r : Ex Gl) : Prop := match r with
  | .ok g => e = .returned (.tuple #[.agg #[.string g.s, .int .i64 g.ax, .int .i64 g.ay, .int .i64 g.ex, .int .i64 g.ey, .int .i64 g.sz, .int .i64 g.x0, .int .i64 g.y0, .int .i64 g.x1, .int .i64 g.y1], .nilIface])
  | .error k => e = .returned (.tuple #[.agg #[.string ⟨#[]⟩, .int .i64 0, .int .i64 0, .int .i64 0, .int .i64 0, .int .i64 0, .int .i64 0, .int .i64 0, .int .i64 0, .int .i64 0], .iface 68 (.int .i64 k)])
set_option maxHeartbeats 4000000 in
theorem glyphAt_says (m : M6) (g : Sp) (w : World) :
    Calls Tryz.prog 105 #[.agg #[.int .i64 m.a, .int .i64 m.b, .int .i64 m.c, .int .i64 m.d, .int .i64 m.e, .int .i64 m.f], .agg #[.int .i64 g.f, .int .i64 g.t, .string g.s]] w fun e w' => GlA e (glyphX m g) ∧ Below w.heap.size w w' := by
  have M0 := hid ((((At.new w #[.int .i64 m.a, .int .i64 m.b, .int .i64 m.c, .int .i64 m.d, .int .i64 m.e, .int .i64 m.f] 74 rfl).alloc (.cells #[.int .i64 g.f, .int .i64 g.t, .string g.s] 142)).alloc (.cells #[.string ⟨#[]⟩, .int .i64 0, .int .i64 0, .int .i64 0, .int .i64 0, .int .i64 0, .int .i64 0, .int .i64 0, .int .i64 0, .int .i64 0] 48)).alloc (.cells #[.int .i64 0, .int .i64 0, .int .i64 g.t, .int .i64 0, .int .i64 0, .int .i64 1000, .int .i64 g.t, .int .i64 1000] 44))
  have S0 := hid (((At.new (w.alloc (.cells #[.int .i64 m.a, .int .i64 m.b, .int .i64 m.c, .int .i64 m.d, .int .i64 m.e, .int .i64 m.f] 74)) #[.int .i64 g.f, .int .i64 g.t, .string g.s] 142 (b := w.heap.size + 1) (by simp)).alloc (.cells #[.string ⟨#[]⟩, .int .i64 0, .int .i64 0, .int .i64 0, .int .i64 0, .int .i64 0, .int .i64 0, .int .i64 0, .int .i64 0, .int .i64 0] 48)).alloc (.cells #[.int .i64 0, .int .i64 0, .int .i64 g.t, .int .i64 0, .int .i64 0, .int .i64 1000, .int .i64 g.t, .int .i64 1000] 44))
  have R0 := hid ((At.new ((w.alloc (.cells #[.int .i64 m.a, .int .i64 m.b, .int .i64 m.c, .int .i64 m.d, .int .i64 m.e, .int .i64 m.f] 74)).alloc (.cells #[.int .i64 g.f, .int .i64 g.t, .string g.s] 142)) #[.string ⟨#[]⟩, .int .i64 0, .int .i64 0, .int .i64 0, .int .i64 0, .int .i64 0, .int .i64 0, .int .i64 0, .int .i64 0, .int .i64 0] 48 (b := w.heap.size + 1 + 1) (by simp)).alloc (.cells #[.int .i64 0, .int .i64 0, .int .i64 g.t, .int .i64 0, .int .i64 0, .int .i64 1000, .int .i64 g.t, .int .i64 1000] 44))
  have Q0 := hid (At.new (((w.alloc (.cells #[.int .i64 m.a, .int .i64 m.b, .int .i64 m.c, .int .i64 m.d, .int .i64 m.e, .int .i64 m.f] 74)).alloc (.cells #[.int .i64 g.f, .int .i64 g.t, .string g.s] 142)).alloc (.cells #[.string ⟨#[]⟩, .int .i64 0, .int .i64 0, .int .i64 0, .int .i64 0, .int .i64 0, .int .i64 0, .int .i64 0, .int .i64 0, .int .i64 0] 48)) #[.int .i64 0, .int .i64 0, .int .i64 g.t, .int .i64 0, .int .i64 0, .int .i64 1000, .int .i64 g.t, .int .i64 1000] 44 (b := w.heap.size + 1 + 1 + 1) (by simp))
  have B0 : Hid (Below w.heap.size w ((((w.alloc (.cells #[.int .i64 m.a, .int .i64 m.b, .int .i64 m.c, .int .i64 m.d, .int .i64 m.e, .int .i64 m.f] 74)).alloc (.cells #[.int .i64 g.f, .int .i64 g.t, .string g.s] 142)).alloc (.cells #[.string ⟨#[]⟩, .int .i64 0, .int .i64 0, .int .i64 0, .int .i64 0, .int .i64 0, .int .i64 0, .int .i64 0, .int .i64 0, .int .i64 0] 48)).alloc (.cells #[.int .i64 0, .int .i64 0, .int .i64 g.t, .int .i64 0, .int .i64 0, .int .i64 1000, .int .i64 g.t, .int .i64 1000] 44))) := hid (by go_grown)
  go_enter Tryz.func105, Tryz.ntmps105
  go_wp2_with fail
  generalize ((((w.alloc (.cells #[.int .i64 m.a, .int .i64 m.b, .int .i64 m.c, .int .i64 m.d, .int .i64 m.e, .int .i64 m.f] 74)).alloc (.cells #[.int .i64 g.f, .int .i64 g.t, .string g.s] 142)).alloc (.cells #[.string ⟨#[]⟩, .int .i64 0, .int .i64 0, .int .i64 0, .int .i64 0, .int .i64 0, .int .i64 0, .int .i64 0, .int .i64 0, .int .i64 0] 48)).alloc (.cells #[.int .i64 0, .int .i64 0, .int .i64 g.t, .int .i64 0, .int .i64 0, .int .i64 1000, .int .i64 g.t, .int .i64 1000] 44)) = W0 at M0 S0 R0 Q0 B0 ⊢
  go_loopw [20] (fun i wr => ∃ (k : Nat) (cs : Array Value), i = .int .i64 k ∧ Gst m g k cs ∧ At wr (w.heap.size + 1 + 1 + 1) 44 cs ∧ At wr w.heap.size 74 #[.int .i64 m.a, .int .i64 m.b, .int .i64 m.c, .int .i64 m.d, .int .i64 m.e, .int .i64 m.f] ∧ At wr (w.heap.size + 1) 142 #[.int .i64 g.f, .int .i64 g.t, .string g.s] ∧ At wr (w.heap.size + 1 + 1) 48 #[.string ⟨#[]⟩, .int .i64 0, .int .i64 0, .int .i64 0, .int .i64 0, .int .i64 0, .int .i64 0, .int .i64 0, .int .i64 0, .int .i64 0] ∧ Below w.heap.size w wr) (fun i _ => 4 - (intOf i).toNat)
  case atStart => exact ⟨0, _, rfl, rfl, Q0.out, M0.out, S0.out, R0.out, B0.out⟩
  case round =>
    clear M0 S0 R0 Q0 B0
    obtain ⟨k, cs, rfl, hG, hQ, hM, hS, hR, hB⟩ := hrel
    match k, hG with
    | 0, hG =>
      cases hG
      have C := hid (apply_x m 0 0)
      have qc0 := hQ.cell 0
      have qc1 := hQ.cell 1
      have qf0 := hQ.free 0
      have qf1 := hQ.free 1
      simp at qc0 qc1
      have m0 := hM.cell 0
      have m1 := hM.cell 1
      have m2 := hM.cell 2
      have m3 := hM.cell 3
      have m4 := hM.cell 4
      have m5 := hM.cell 5
      simp at m0 m1 m2 m3 m4 m5
      have zQ := hQ.lt
      have H := hid (And.intro hQ (And.intro hM (And.intro hS (And.intro hR hB))))
      clear hQ hM hS hR hB
      obtain ⟨r, hr⟩ : ∃ r, appX m 0 0 = r := ⟨_, rfl⟩
      have HR := hid hr
      clear hr
      cases r with
      | error k =>
        go_wp2_with fail
        go_region_with (go_at_call 85; refine (C.out _).mono ?_; rintro e w1 ⟨hm, hb⟩; rw [HR.out] at hm; cases (show e = .returned (.tuple #[.agg #[.int .i64 0, .int .i64 0], .iface 68 (.int .i64 k)]) from hm); clear hm; (have H1 := hid (below_undrew' hb)); (have zq : w.heap.size + 1 + 1 + 1 < w1.heap.size := (H.out.1.later H1.out).lt); (have d0 := (H.out.1.later H1.out).cell 0); (have d1 := (H.out.1.later H1.out).cell 1); (have f0 := (H.out.1.later H1.out).free 0); (have f1 := (H.out.1.later H1.out).free 1); simp at d0 d1; (have rc := (H.out.2.2.2.1.later H1.out).cell); (have rfr := (H.out.2.2.2.1.later H1.out).free); clear hb)
        all_goals
          go_wp2_with fail
          refine bodyPost_ret (v := .tuple #[.agg #[.string ⟨#[]⟩, .int .i64 0, .int .i64 0, .int .i64 0, .int .i64 0, .int .i64 0, .int .i64 0, .int .i64 0, .int .i64 0, .int .i64 0], .iface 68 (.int .i64 k)]) (by simp [results, Tryz.results105, go_sem, rc]) rfl ⟨by rw [show glyphX m g = .error k from by unfold glyphX; simp only [HR.out, Except.bind]]; rfl, ?_⟩
          first | exact below_cells (vs := [_, _, _, _, _, _, _, _, _, _]) (o := 0) (by omega) (below_cells (vs := [_, _]) (o := 0) (by omega) (H.out.2.2.2.2.trans (H1.out.mono H.out.2.2.2.2.size))) | go_grown
      | ok q =>
        obtain ⟨x0, y0⟩ := q
        go_wp2_with fail
        go_region_with (go_at_call 85; refine (C.out _).mono ?_; rintro e w1 ⟨hm, hb⟩; rw [HR.out] at hm; cases (show e = .returned (.tuple #[.agg #[.int .i64 x0, .int .i64 y0], .nilIface]) from hm); clear hm; (have H1 := hid (below_undrew' hb)); (have zq : w.heap.size + 1 + 1 + 1 < w1.heap.size := (H.out.1.later H1.out).lt); (have d0 := (H.out.1.later H1.out).cell 0); (have d1 := (H.out.1.later H1.out).cell 1); (have f0 := (H.out.1.later H1.out).free 0); (have f1 := (H.out.1.later H1.out).free 1); simp at d0 d1; (have rc := (H.out.2.2.2.1.later H1.out).cell); (have rfr := (H.out.2.2.2.1.later H1.out).free); clear hb)
        all_goals
          go_wp2_with fail
          go_roundw
          case rel => exact ⟨1, _, rfl, ⟨(x0, y0), HR.out, rfl⟩, (heap_setCell_same _ _ 1 _ _ _ (heap_setCell_same _ _ 0 _ _ _ (H.out.1.later H1.out))), ((H.out.2.1.later H1.out).other (by omega)).other (by omega), ((H.out.2.2.1.later H1.out).other (by omega)).other (by omega), ((H.out.2.2.2.1.later H1.out).other (by omega)).other (by omega), below_cells (vs := [_, _]) (o := 0) (by omega) (H.out.2.2.2.2.trans (H1.out.mono H.out.2.2.2.2.size))⟩
          case measure => simp [intOf]
    | 1, hG =>
      obtain ⟨p0, a0, rfl⟩ := hG
      have HP := hid (show appX m 0 0 = .ok p0 from a0)
      clear a0
      obtain ⟨x0, y0⟩ := p0
      dsimp only at hQ
      have C := hid (apply_x m g.t 0)
      have qc0 := hQ.cell 2
      have qc1 := hQ.cell 3
      have qf0 := hQ.free 2
      have qf1 := hQ.free 3
      simp at qc0 qc1
      have m0 := hM.cell 0
      have m1 := hM.cell 1
      have m2 := hM.cell 2
      have m3 := hM.cell 3
      have m4 := hM.cell 4
      have m5 := hM.cell 5
      simp at m0 m1 m2 m3 m4 m5
      have zQ := hQ.lt
      have H := hid (And.intro hQ (And.intro hM (And.intro hS (And.intro hR hB))))
      clear hQ hM hS hR hB
      obtain ⟨r, hr⟩ : ∃ r, appX m g.t 0 = r := ⟨_, rfl⟩
      have HR := hid hr
      clear hr
      cases r with
      | error k =>
        go_wp2_with fail
        go_region_with (go_at_call 85; refine (C.out _).mono ?_; rintro e w1 ⟨hm, hb⟩; rw [HR.out] at hm; cases (show e = .returned (.tuple #[.agg #[.int .i64 0, .int .i64 0], .iface 68 (.int .i64 k)]) from hm); clear hm; (have H1 := hid (below_undrew' hb)); (have zq : w.heap.size + 1 + 1 + 1 < w1.heap.size := (H.out.1.later H1.out).lt); (have d0 := (H.out.1.later H1.out).cell 2); (have d1 := (H.out.1.later H1.out).cell 3); (have f0 := (H.out.1.later H1.out).free 2); (have f1 := (H.out.1.later H1.out).free 3); simp at d0 d1; (have rc := (H.out.2.2.2.1.later H1.out).cell); (have rfr := (H.out.2.2.2.1.later H1.out).free); clear hb)
        all_goals
          go_wp2_with fail
          refine bodyPost_ret (v := .tuple #[.agg #[.string ⟨#[]⟩, .int .i64 0, .int .i64 0, .int .i64 0, .int .i64 0, .int .i64 0, .int .i64 0, .int .i64 0, .int .i64 0, .int .i64 0], .iface 68 (.int .i64 k)]) (by simp [results, Tryz.results105, go_sem, rc]) rfl ⟨by rw [show glyphX m g = .error k from by unfold glyphX; simp only [HP.out, HR.out, Except.bind]]; rfl, ?_⟩
          first | exact below_cells (vs := [_, _, _, _, _, _, _, _, _, _]) (o := 0) (by omega) (below_cells (vs := [_, _]) (o := 2) (by omega) (H.out.2.2.2.2.trans (H1.out.mono H.out.2.2.2.2.size))) | go_grown
      | ok q =>
        obtain ⟨x1, y1⟩ := q
        go_wp2_with fail
        go_region_with (go_at_call 85; refine (C.out _).mono ?_; rintro e w1 ⟨hm, hb⟩; rw [HR.out] at hm; cases (show e = .returned (.tuple #[.agg #[.int .i64 x1, .int .i64 y1], .nilIface]) from hm); clear hm; (have H1 := hid (below_undrew' hb)); (have zq : w.heap.size + 1 + 1 + 1 < w1.heap.size := (H.out.1.later H1.out).lt); (have d0 := (H.out.1.later H1.out).cell 2); (have d1 := (H.out.1.later H1.out).cell 3); (have f0 := (H.out.1.later H1.out).free 2); (have f1 := (H.out.1.later H1.out).free 3); simp at d0 d1; (have rc := (H.out.2.2.2.1.later H1.out).cell); (have rfr := (H.out.2.2.2.1.later H1.out).free); clear hb)
        all_goals
          go_wp2_with fail
          go_roundw
          case rel => exact ⟨2, _, rfl, ⟨(x0, y0), (x1, y1), HP.out, HR.out, rfl⟩, (heap_setCell_same _ _ 3 _ _ _ (heap_setCell_same _ _ 2 _ _ _ (H.out.1.later H1.out))), ((H.out.2.1.later H1.out).other (by omega)).other (by omega), ((H.out.2.2.1.later H1.out).other (by omega)).other (by omega), ((H.out.2.2.2.1.later H1.out).other (by omega)).other (by omega), below_cells (vs := [_, _]) (o := 2) (by omega) (H.out.2.2.2.2.trans (H1.out.mono H.out.2.2.2.2.size))⟩
          case measure => simp [intOf]
    | 2, hG =>
      obtain ⟨p0, p1, a0, a1, rfl⟩ := hG
      have HP := hid (show appX m 0 0 = .ok p0 ∧ appX m g.t 0 = .ok p1 from ⟨a0, a1⟩)
      clear a0 a1
      obtain ⟨x0, y0⟩ := p0
      obtain ⟨x1, y1⟩ := p1
      dsimp only at hQ
      have C := hid (apply_x m 0 1000)
      have qc0 := hQ.cell 4
      have qc1 := hQ.cell 5
      have qf0 := hQ.free 4
      have qf1 := hQ.free 5
      simp at qc0 qc1
      have m0 := hM.cell 0
      have m1 := hM.cell 1
      have m2 := hM.cell 2
      have m3 := hM.cell 3
      have m4 := hM.cell 4
      have m5 := hM.cell 5
      simp at m0 m1 m2 m3 m4 m5
      have zQ := hQ.lt
      have H := hid (And.intro hQ (And.intro hM (And.intro hS (And.intro hR hB))))
      clear hQ hM hS hR hB
      obtain ⟨r, hr⟩ : ∃ r, appX m 0 1000 = r := ⟨_, rfl⟩
      have HR := hid hr
      clear hr
      cases r with
      | error k =>
        go_wp2_with fail
        go_region_with (go_at_call 85; refine (C.out _).mono ?_; rintro e w1 ⟨hm, hb⟩; rw [HR.out] at hm; cases (show e = .returned (.tuple #[.agg #[.int .i64 0, .int .i64 0], .iface 68 (.int .i64 k)]) from hm); clear hm; (have H1 := hid (below_undrew' hb)); (have zq : w.heap.size + 1 + 1 + 1 < w1.heap.size := (H.out.1.later H1.out).lt); (have d0 := (H.out.1.later H1.out).cell 4); (have d1 := (H.out.1.later H1.out).cell 5); (have f0 := (H.out.1.later H1.out).free 4); (have f1 := (H.out.1.later H1.out).free 5); simp at d0 d1; (have rc := (H.out.2.2.2.1.later H1.out).cell); (have rfr := (H.out.2.2.2.1.later H1.out).free); clear hb)
        all_goals
          go_wp2_with fail
          refine bodyPost_ret (v := .tuple #[.agg #[.string ⟨#[]⟩, .int .i64 0, .int .i64 0, .int .i64 0, .int .i64 0, .int .i64 0, .int .i64 0, .int .i64 0, .int .i64 0, .int .i64 0], .iface 68 (.int .i64 k)]) (by simp [results, Tryz.results105, go_sem, rc]) rfl ⟨by rw [show glyphX m g = .error k from by unfold glyphX; simp only [HP.out.1, HP.out.2, HR.out, Except.bind]]; rfl, ?_⟩
          first | exact below_cells (vs := [_, _, _, _, _, _, _, _, _, _]) (o := 0) (by omega) (below_cells (vs := [_, _]) (o := 4) (by omega) (H.out.2.2.2.2.trans (H1.out.mono H.out.2.2.2.2.size))) | go_grown
      | ok q =>
        obtain ⟨x2, y2⟩ := q
        go_wp2_with fail
        go_region_with (go_at_call 85; refine (C.out _).mono ?_; rintro e w1 ⟨hm, hb⟩; rw [HR.out] at hm; cases (show e = .returned (.tuple #[.agg #[.int .i64 x2, .int .i64 y2], .nilIface]) from hm); clear hm; (have H1 := hid (below_undrew' hb)); (have zq : w.heap.size + 1 + 1 + 1 < w1.heap.size := (H.out.1.later H1.out).lt); (have d0 := (H.out.1.later H1.out).cell 4); (have d1 := (H.out.1.later H1.out).cell 5); (have f0 := (H.out.1.later H1.out).free 4); (have f1 := (H.out.1.later H1.out).free 5); simp at d0 d1; (have rc := (H.out.2.2.2.1.later H1.out).cell); (have rfr := (H.out.2.2.2.1.later H1.out).free); clear hb)
        all_goals
          go_wp2_with fail
          go_roundw
          case rel => exact ⟨3, _, rfl, ⟨(x0, y0), (x1, y1), (x2, y2), HP.out.1, HP.out.2, HR.out, rfl⟩, (heap_setCell_same _ _ 5 _ _ _ (heap_setCell_same _ _ 4 _ _ _ (H.out.1.later H1.out))), ((H.out.2.1.later H1.out).other (by omega)).other (by omega), ((H.out.2.2.1.later H1.out).other (by omega)).other (by omega), ((H.out.2.2.2.1.later H1.out).other (by omega)).other (by omega), below_cells (vs := [_, _]) (o := 4) (by omega) (H.out.2.2.2.2.trans (H1.out.mono H.out.2.2.2.2.size))⟩
          case measure => simp [intOf]
    | 3, hG =>
      obtain ⟨p0, p1, p2, a0, a1, a2, rfl⟩ := hG
      have HP := hid (show appX m 0 0 = .ok p0 ∧ appX m g.t 0 = .ok p1 ∧ appX m 0 1000 = .ok p2 from ⟨a0, a1, a2⟩)
      clear a0 a1 a2
      obtain ⟨x0, y0⟩ := p0
      obtain ⟨x1, y1⟩ := p1
      obtain ⟨x2, y2⟩ := p2
      dsimp only at hQ
      have C := hid (apply_x m g.t 1000)
      have qc0 := hQ.cell 6
      have qc1 := hQ.cell 7
      have qf0 := hQ.free 6
      have qf1 := hQ.free 7
      simp at qc0 qc1
      have m0 := hM.cell 0
      have m1 := hM.cell 1
      have m2 := hM.cell 2
      have m3 := hM.cell 3
      have m4 := hM.cell 4
      have m5 := hM.cell 5
      simp at m0 m1 m2 m3 m4 m5
      have zQ := hQ.lt
      have H := hid (And.intro hQ (And.intro hM (And.intro hS (And.intro hR hB))))
      clear hQ hM hS hR hB
      obtain ⟨r, hr⟩ : ∃ r, appX m g.t 1000 = r := ⟨_, rfl⟩
      have HR := hid hr
      clear hr
      cases r with
      | error k =>
        go_wp2_with fail
        go_region_with (go_at_call 85; refine (C.out _).mono ?_; rintro e w1 ⟨hm, hb⟩; rw [HR.out] at hm; cases (show e = .returned (.tuple #[.agg #[.int .i64 0, .int .i64 0], .iface 68 (.int .i64 k)]) from hm); clear hm; (have H1 := hid (below_undrew' hb)); (have zq : w.heap.size + 1 + 1 + 1 < w1.heap.size := (H.out.1.later H1.out).lt); (have d0 := (H.out.1.later H1.out).cell 6); (have d1 := (H.out.1.later H1.out).cell 7); (have f0 := (H.out.1.later H1.out).free 6); (have f1 := (H.out.1.later H1.out).free 7); simp at d0 d1; (have rc := (H.out.2.2.2.1.later H1.out).cell); (have rfr := (H.out.2.2.2.1.later H1.out).free); clear hb)
        all_goals
          go_wp2_with fail
          refine bodyPost_ret (v := .tuple #[.agg #[.string ⟨#[]⟩, .int .i64 0, .int .i64 0, .int .i64 0, .int .i64 0, .int .i64 0, .int .i64 0, .int .i64 0, .int .i64 0, .int .i64 0], .iface 68 (.int .i64 k)]) (by simp [results, Tryz.results105, go_sem, rc]) rfl ⟨by rw [show glyphX m g = .error k from by unfold glyphX; simp only [HP.out.1, HP.out.2.1, HP.out.2.2, HR.out, Except.bind]]; rfl, ?_⟩
          first | exact below_cells (vs := [_, _, _, _, _, _, _, _, _, _]) (o := 0) (by omega) (below_cells (vs := [_, _]) (o := 6) (by omega) (H.out.2.2.2.2.trans (H1.out.mono H.out.2.2.2.2.size))) | go_grown
      | ok q =>
        obtain ⟨x3, y3⟩ := q
        go_wp2_with fail
        go_region_with (go_at_call 85; refine (C.out _).mono ?_; rintro e w1 ⟨hm, hb⟩; rw [HR.out] at hm; cases (show e = .returned (.tuple #[.agg #[.int .i64 x3, .int .i64 y3], .nilIface]) from hm); clear hm; (have H1 := hid (below_undrew' hb)); (have zq : w.heap.size + 1 + 1 + 1 < w1.heap.size := (H.out.1.later H1.out).lt); (have d0 := (H.out.1.later H1.out).cell 6); (have d1 := (H.out.1.later H1.out).cell 7); (have f0 := (H.out.1.later H1.out).free 6); (have f1 := (H.out.1.later H1.out).free 7); simp at d0 d1; (have rc := (H.out.2.2.2.1.later H1.out).cell); (have rfr := (H.out.2.2.2.1.later H1.out).free); clear hb)
        all_goals
          go_wp2_with fail
          go_roundw
          case rel => exact ⟨4, _, rfl, ⟨(x0, y0), (x1, y1), (x2, y2), (x3, y3), HP.out.1, HP.out.2.1, HP.out.2.2, HR.out, rfl⟩, (heap_setCell_same _ _ 7 _ _ _ (heap_setCell_same _ _ 6 _ _ _ (H.out.1.later H1.out))), ((H.out.2.1.later H1.out).other (by omega)).other (by omega), ((H.out.2.2.1.later H1.out).other (by omega)).other (by omega), ((H.out.2.2.2.1.later H1.out).other (by omega)).other (by omega), below_cells (vs := [_, _]) (o := 6) (by omega) (H.out.2.2.2.2.trans (H1.out.mono H.out.2.2.2.2.size))⟩
          case measure => simp [intOf]
    | 4, hG =>
      obtain ⟨⟨x0, y0⟩, ⟨x1, y1⟩, ⟨x2, y2⟩, ⟨x3, y3⟩, a0, a1, a2, a3, rfl⟩ := hG
      dsimp only at hQ
      have HG : Hid (glyphX m g = .ok ⟨g.s, x0, y0, x1, y1, 0, minX [(x0, y0), (x1, y1), (x2, y2), (x3, y3)], minY [(x0, y0), (x1, y1), (x2, y2), (x3, y3)], maxX [(x0, y0), (x1, y1), (x2, y2), (x3, y3)], maxY [(x0, y0), (x1, y1), (x2, y2), (x3, y3)]⟩) := hid (by unfold glyphX; simp only [a0, a1, a2, a3, Except.bind])
      have HN : Hid (PtsAt wr (w.heap.size + 1 + 1 + 1) 0 [(x0, y0), (x1, y1), (x2, y2), (x3, y3)]) := hid ⟨hQ.lt, fun i hi => by
        match i, hi with
        | 0, _ => exact ⟨hQ.cell 0, hQ.cell 1⟩
        | 1, _ => exact ⟨hQ.cell 2, hQ.cell 3⟩
        | 2, _ => exact ⟨hQ.cell 4, hQ.cell 5⟩
        | 3, _ => exact ⟨hQ.cell 6, hQ.cell 7⟩⟩
      clear a0 a1 a2 a3
      generalize hb0 : minX [(x0, y0), (x1, y1), (x2, y2), (x3, y3)] = b0 at HG
      generalize hb1 : minY [(x0, y0), (x1, y1), (x2, y2), (x3, y3)] = b1 at HG
      generalize hb2 : maxX [(x0, y0), (x1, y1), (x2, y2), (x3, y3)] = b2 at HG
      generalize hb3 : maxY [(x0, y0), (x1, y1), (x2, y2), (x3, y3)] = b3 at HG
      have C : Hid (∀ W, PtsAt W (w.heap.size + 1 + 1 + 1) 0 [(x0, y0), (x1, y1), (x2, y2), (x3, y3)] → Calls Tryz.prog 130 #[.slice (some ⟨w.heap.size + 1 + 1 + 1, 0, none⟩) 4 4] W fun e w' => e = .returned (.agg #[.int .i64 b0, .int .i64 b1, .int .i64 b2, .int .i64 b3]) ∧ Below W.heap.size W w') := hid (fun W h => by have := around_pos (w.heap.size + 1 + 1 + 1) 0 4 4 _ W rfl (by decide) (by decide) h; unfold boxV at this; rw [hb0, hb1, hb2, hb3] at this; exact this)
      clear hb0 hb1 hb2 hb3
      have s2 := hS.cell 2
      have q0 := hQ.cell 0
      have q1 := hQ.cell 1
      have q2 := hQ.cell 2
      have q3 := hQ.cell 3
      simp at s2 q0 q1 q2 q3
      have H := hid (And.intro hQ (And.intro hM (And.intro hS (And.intro hR hB))))
      clear hQ hM hS hR hB
      go_wp2_with fail
      have H0 := hid (show ∀ W, KeepBut (w.heap.size + 1 + 1) wr W → W.cell? ⟨w.heap.size + 1, 2, none⟩ = some (.string g.s) ∧ W.cell? ⟨w.heap.size + 1 + 1 + 1, 0, none⟩ = some (.int .i64 x0) ∧ W.cell? ⟨w.heap.size + 1 + 1 + 1, 1, none⟩ = some (.int .i64 y0) ∧ W.cell? ⟨w.heap.size + 1 + 1 + 1, 2, none⟩ = some (.int .i64 x1) ∧ W.cell? ⟨w.heap.size + 1 + 1 + 1, 3, none⟩ = some (.int .i64 y1) from fun W hW => ⟨(hW.cell H.out.2.2.1.lt (by omega) 2).trans (H.out.2.2.1.cell 2), (hW.cell H.out.1.lt (by omega) 0).trans (H.out.1.cell 0), (hW.cell H.out.1.lt (by omega) 1).trans (H.out.1.cell 1), (hW.cell H.out.1.lt (by omega) 2).trans (H.out.1.cell 2), (hW.cell H.out.1.lt (by omega) 3).trans (H.out.1.cell 3)⟩)
      clear s2 q0 q1 q2 q3
      go_region_held3 (fun (W : World) => W.cell? ⟨w.heap.size + 1, 2, none⟩ = some (.string g.s) ∧ W.cell? ⟨w.heap.size + 1 + 1 + 1, 0, none⟩ = some (.int .i64 x0) ∧ W.cell? ⟨w.heap.size + 1 + 1 + 1, 1, none⟩ = some (.int .i64 y0) ∧ W.cell? ⟨w.heap.size + 1 + 1 + 1, 2, none⟩ = some (.int .i64 x1) ∧ W.cell? ⟨w.heap.size + 1 + 1 + 1, 3, none⟩ = some (.int .i64 y1))
        (first | with_reducible exact H0.out _ (((((((((((HK.out.set 0 _).set 1 _).set 2 _).set 3 _).set 4 _).set 5 _).set 6 _).set 7 _).set 8 _).set 9 _)) | with_reducible exact H0.out _ (KeepBut.refl _ _) | with_reducible exact H0.out _ (KeepBut.refl _ _).drew | with_reducible exact H0.out _ HK.out)
        (first
          | (go_at_call 130; refine (C.out _ (HN.out.later (by go_grown))).mono ?_; rintro e w1 ⟨rfl, hb⟩; (have H1 : Hid (Below wr.heap.size wr w1) := hid (chn0 (by go_grown) hb)); (have HK : Hid (KeepBut (w.heap.size + 1 + 1) wr w1) := hid (KeepBut.of H1.out)); (have rc := (H.out.2.2.2.1.later H1.out).cell); (have rfr := (H.out.2.2.2.1.later H1.out).free); (have zz : w.heap.size + 1 + 1 < w1.heap.size := (H.out.2.2.2.1.later H1.out).lt); clear hb))
      all_goals
        go_wp2_with fail
        refine bodyPost_ret (v := .tuple #[.agg #[.string g.s, .int .i64 x0, .int .i64 y0, .int .i64 x1, .int .i64 y1, .int .i64 0, .int .i64 b0, .int .i64 b1, .int .i64 b2, .int .i64 b3], .nilIface]) (by simp [results, Tryz.results105, go_sem, rc]) rfl ⟨by rw [HG.out]; rfl, ?_⟩
        first | exact below_cells (vs := [_, _, _, _, _, _, _, _, _, _]) (o := 0) (by omega) (H.out.2.2.2.2.trans (H1.out.mono H.out.2.2.2.2.size)) | go_grown
    | k + 5, hG => exact False.elim hG
end Go.Proofs.YtobpidmlgldnmaaGreatDoor
