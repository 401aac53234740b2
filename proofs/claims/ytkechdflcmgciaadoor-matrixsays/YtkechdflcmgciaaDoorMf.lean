/-
  The walks of the law MatrixSays, for all matrices and points.
-/
import Derived.Test.YtkechdflcmgciaaDoorMb
import Derived.Test.YtkechdflcmgciaaDoorMe
import Derived.Test.YtkechdflcmgciaaDoorFs
import Derived.Test.YtkechdflcmgciaaDoorMg
import Derived.Deep.CutRange
import Derived.Deep.RegionWith
namespace Go.Proofs.YtkechdflcmgciaaDoor
open Go.RowKit
set_option maxRecDepth 100000

set_option maxHeartbeats 400000 in
theorem matrixSays_long (m : Int) (a b c d e f A B C D E F : Int) (v : Option Addr) (n cp : Nat) (w : World) (hr : Rdy m w) (hn : 50 < n) (hx : n ≤ maxLen) :
    Calls Tryd.prog 5 #[.agg #[.int .i64 a, .int .i64 b, .int .i64 c, .int .i64 d, .int .i64 e, .int .i64 f], .agg #[.int .i64 A, .int .i64 B, .int .i64 C, .int .i64 D, .int .i64 E, .int .i64 F], .slice v n cp] w fun e w' => e = .returned (.bool true) ∧ Below w.heap.size w w' := by
  unfold maxLen at hx
  have hn' : (50 : Int) < n := by omega
  have hr1 : ∀ o o', Rdy m ((w.alloc o).alloc o') := fun o o' => hr.below (by go_grown)
  go_enter Tryd.func5, Tryd.ntmps5
  go_wp2_with (first
    | (go_at_call 11; refine (fixes_any m _ (hr1 _ _)).mono ?_; rintro e w1 ⟨rfl, hb1, hr1'⟩)
    | (go_at_call 22; refine (unit_any _).mono ?_; rintro e w2 ⟨rfl, hb2⟩))
  go_ret
  exact ⟨rfl, Below.trans (by go_grown) ((hb1.trans (hb2.mono hb1.size)).mono (by simp; omega))⟩

theorem cell12 {w : World} {bk : Nat} {a b c d e f A B C D E F : Int} (h : At w bk 3 #[.int .i64 a, .int .i64 b, .int .i64 c, .int .i64 d, .int .i64 e, .int .i64 f, .int .i64 A, .int .i64 B, .int .i64 C, .int .i64 D, .int .i64 E, .int .i64 F]) (k : Nat) (hk : k < 12) : ∃ z, w.cell? ⟨bk, k, none⟩ = some (.int .i64 z) := by
  rw [h.cell k]
  match k, hk with
  | 0, _ => exact ⟨_, rfl⟩ | 1, _ => exact ⟨_, rfl⟩ | 2, _ => exact ⟨_, rfl⟩ | 3, _ => exact ⟨_, rfl⟩ | 4, _ => exact ⟨_, rfl⟩ | 5, _ => exact ⟨_, rfl⟩ | 6, _ => exact ⟨_, rfl⟩ | 7, _ => exact ⟨_, rfl⟩ | 8, _ => exact ⟨_, rfl⟩ | 9, _ => exact ⟨_, rfl⟩ | 10, _ => exact ⟨_, rfl⟩ | 11, _ => exact ⟨_, rfl⟩
  | n + 12, h => omega
theorem coV_agg (a b c d e f A B C D E F : Int) : ∃ p q r s t u : Int, coV a b c d e f A B C D E F = .agg #[.int .i64 p, .int .i64 q, .int .i64 r, .int .i64 s, .int .i64 t, .int .i64 u] := ⟨_, _, _, _, _, _, rfl⟩
theorem boxV_agg (ps : List (Int × Int)) : ∃ p q r s : Int, boxV ps = .agg #[.int .i64 p, .int .i64 q, .int .i64 r, .int .i64 s] := ⟨_, _, _, _, rfl⟩

theorem At.set2 {w : World} {b : Nat} {t : TypeId} {a c p q : Value} (h : At w b t #[a, c]) : At ((w.setCell ⟨b, 0, none⟩ p).setCell ⟨b, 1, none⟩ q) b t #[p, q] :=
  heap_setCell_same _ b 1 _ t q (heap_setCell_same w b 0 _ t p h)
theorem lt_of_at {w : World} {b : Nat} {t : TypeId} {cs : Array Value} (h : At w b t cs) : b ≠ w.heap.size := by have := h.lt; omega
/-- A point stored into a block that was laid ahead of the call; into one behind it: what the rest needs. -/
theorem relA {w wr w8 : World} {B : Nat} {t : TypeId} {cs : Array Value} {x y : Value} {z : Array Value} (hM : At wr B t cs) (hB : Below w.heap.size w wr) (hb8 : Below (wr.alloc (.cells #[.int .i64 0, .int .i64 0] 55)).drew.heap.size (wr.alloc (.cells #[.int .i64 0, .int .i64 0] 55)).drew w8) (hz : z = #[x, y]) :
    At ((w8.setCell ⟨wr.heap.size, 0, none⟩ x).setCell ⟨wr.heap.size, 1, none⟩ y) wr.heap.size 55 z ∧ At ((w8.setCell ⟨wr.heap.size, 0, none⟩ x).setCell ⟨wr.heap.size, 1, none⟩ y) B t cs ∧ Below w.heap.size w ((w8.setCell ⟨wr.heap.size, 0, none⟩ x).setCell ⟨wr.heap.size, 1, none⟩ y) := by
  subst hz
  have hb := below_undrew hb8
  have hn := lt_of_at hM
  exact ⟨((At.new wr #[.int .i64 0, .int .i64 0] 55 rfl).later hb).set2, (((hM.alloc _).later hb).other hn).other hn, (((hB.alloc hB.size _).trans (hb.mono (by have := hB.size; simp; omega))).setCell (by simpa using hB.size) _).setCell (by simpa using hB.size) _⟩
theorem relB {w wr w8 : World} {B : Nat} {t : TypeId} {cs z : Array Value} (hM : At wr B t cs) (hB : Below w.heap.size w wr) (hb8 : Below wr.drew.heap.size wr.drew w8) :
    At (w8.alloc (.cells z 55)) w8.heap.size 55 z ∧ At (w8.alloc (.cells z 55)) B t cs ∧ Below w.heap.size w (w8.alloc (.cells z 55)) := by
  have hb := below_undrew hb8
  have h2 := hB.trans (hb.mono hB.size)
  exact ⟨At.new w8 z 55 rfl, (hM.later hb).alloc _, h2.alloc h2.size _⟩
set_option maxHeartbeats 4000000 in
theorem matrixSays_pos (m : Int) (a b c d e f A B C D E F : Int) (bk off n cp : Nat) (ps : List (Int × Int)) (w : World) (hr : Rdy m w) (hps : ps.length = n) (h1 : 1 ≤ n) (h2 : n ≤ 50) (hp : PtsAt w bk off ps) :
    Calls Tryd.prog 5 #[.agg #[.int .i64 a, .int .i64 b, .int .i64 c, .int .i64 d, .int .i64 e, .int .i64 f], .agg #[.int .i64 A, .int .i64 B, .int .i64 C, .int .i64 D, .int .i64 E, .int .i64 F], .slice (some ⟨bk, off, none⟩) n cp] w fun e w' => e = .returned (.bool true) ∧ Below w.heap.size w w' := by
  have hn' : ¬ (50 : Int) < n := by omega
  have HP := hid hp
  have hr1 : ∀ o o', Rdy m ((w.alloc o).alloc o') := fun o o' => hr.below (by go_grown)
  clear hp
  go_enter Tryd.func5, Tryd.ntmps5
  go_wp2_with (go_at_call 11; fail)
  go_at_call 11
  refine (fixes_any m _ (hr1 _ _)).mono ?_
  rintro r w1 ⟨rfl, hb1, _⟩
  have B1 : Below w.heap.size w w1 := Below.trans (by go_grown) (hb1.mono (by simp; omega))
  have M1 := ((At.new w #[.int .i64 a, .int .i64 b, .int .i64 c, .int .i64 d, .int .i64 e, .int .i64 f] 44 rfl).alloc _).later hb1
  have N1 := (At.new (w.alloc _) #[.int .i64 A, .int .i64 B, .int .i64 C, .int .i64 D, .int .i64 E, .int .i64 F] 44 (b := w.heap.size + 1) (by simp)).later hb1
  clear hb1 hr1
  go_wp2_with (go_at_call 22; fail)
  go_at_call 22
  refine (unit_any _).mono ?_
  rintro r w2 ⟨rfl, hb2⟩
  have B2 : Below w.heap.size w w2 := B1.trans (hb2.mono B1.size)
  have M2 := M1.later hb2
  have N2 := N1.later hb2
  clear hb2 M1 N1 B1
  have mc := M2.cell
  have nc := N2.cell
  go_wp2
  clear mc nc
  have B3 := B2.alloc B2.size (.cells #[.int .i64 a, .int .i64 b, .int .i64 c, .int .i64 d, .int .i64 e, .int .i64 f, .int .i64 A, .int .i64 B, .int .i64 C, .int .i64 D, .int .i64 E, .int .i64 F] 3)
  have M3 := M2.alloc (.cells #[.int .i64 a, .int .i64 b, .int .i64 c, .int .i64 d, .int .i64 e, .int .i64 f, .int .i64 A, .int .i64 B, .int .i64 C, .int .i64 D, .int .i64 E, .int .i64 F] 3)
  have N3 := N2.alloc (.cells #[.int .i64 a, .int .i64 b, .int .i64 c, .int .i64 d, .int .i64 e, .int .i64 f, .int .i64 A, .int .i64 B, .int .i64 C, .int .i64 D, .int .i64 E, .int .i64 F] 3)
  have K3 := At.new w2 #[.int .i64 a, .int .i64 b, .int .i64 c, .int .i64 d, .int .i64 e, .int .i64 f, .int .i64 A, .int .i64 B, .int .i64 C, .int .i64 D, .int .i64 E, .int .i64 F] 3 rfl
  clear M2 N2 B2
  generalize w2.alloc (.cells #[.int .i64 a, .int .i64 b, .int .i64 c, .int .i64 d, .int .i64 e, .int .i64 f, .int .i64 A, .int .i64 B, .int .i64 C, .int .i64 D, .int .i64 E, .int .i64 F] 3) = w3 at *
  go_loop [64] (fun i => ∃ k : Nat, k ≤ 12 ∧ i = .int .i64 k) (fun i => 12 - (intOf i).toNat)
  case atStart => exact ⟨0, by omega, rfl⟩
  case round =>
    obtain ⟨k, hk, rfl⟩ := hrel
    by_cases hlt : k < 12
    · obtain ⟨z, hz⟩ : ∃ z, w3.cell? ⟨w2.heap.size, k, none⟩ = some (.int .i64 z) := cell12 K3 k hlt
      have hlt' : (k : Int) < 12 := by omega
      have fz := flt_01 z
      by_cases hb : 0 < flt z
      · go_wp2_with (go_at_call 12; refine (fault_any _ _).mono ?_; rintro r w' ⟨rfl, rfl⟩)
        go_ret
        exact ⟨rfl, B3⟩
      · go_wp2_with (go_at_call 12; refine (fault_any _ _).mono ?_; rintro r w' ⟨rfl, rfl⟩)
        go_round
        case rel => exact ⟨k + 1, by omega, by go_num⟩
        case measure => simp [intOf]; omega
    · clear K3
      have mc := M3.cell
      have nc := N3.cell
      go_wp2_with (go_at_call 23; fail)
      clear mc nc
      go_at_call 23
      refine (concat_any _ _ _ _ _ _ _ _ _ _ _ _ _).mono ?_
      rintro r w4 ⟨rfl, hb4⟩
      have B4 : Below w.heap.size w w4 := B3.trans (hb4.mono B3.size)
      have M4 := M3.later hb4
      have N4 := N3.later hb4
      clear M3 N3 B3 hb4
      obtain ⟨p, q, r, s, t, u, hco⟩ := coV_agg a b c d e f A B C D E F
      have nE := coE_01 a b c d e f A B C D E F
      rw [hco]
      have HC := hid hco
      clear hco
      have mc := fun o => (M4.alloc o).cell
      have nc := fun o => (N4.alloc o).cell
      go_wp2_with (go_at_call 24; fail)
      clear mc nc
      go_at_call 24
      refine (rconcat_any _ _ _ _ _ _ _ _ _ _ _ _ _).mono ?_
      rintro r' w5 ⟨rfl, hb5⟩
      have B5 : Below w.heap.size w w5 := (B4.alloc B4.size _).trans (hb5.mono (by have := B4.size; simp; omega))
      have M5 := (M4.alloc _).later hb5
      have X5 := (At.new w4 #[.int .i64 p, .int .i64 q, .int .i64 r, .int .i64 s, .int .i64 t, .int .i64 u] 44 rfl).later hb5
      clear M4 N4 B4 hb5
      rw [HC.out]
      have xc := fun o => (X5.alloc o).cell
      have hq := neqM p q r s t u
      go_wp2_with (first
        | (go_at_call 8; refine (same_any _ _ _ (by omega)).mono ?_; rintro r' w' ⟨rfl, rfl⟩)
        | (go_at_call 25; fail))
      clear xc hq
      have B5' := B5.alloc B5.size (.cells #[.int .i64 p, .int .i64 q, .int .i64 r, .int .i64 s, .int .i64 t, .int .i64 u] 44)
      have M5' := M5.alloc (.cells #[.int .i64 p, .int .i64 q, .int .i64 r, .int .i64 s, .int .i64 t, .int .i64 u] 44)
      clear B5 M5 X5
      go_at_call 25
      refine (around_pos bk off n cp ps _ hps h1 (by omega) (HP.out.later B5')).mono ?_
      rintro r' w6 ⟨rfl, hb6⟩
      have B6 : Below w.heap.size w w6 := B5'.trans (hb6.mono B5'.size)
      have M6 := M5'.later hb6
      clear B5' M5' hb6
      obtain ⟨x0, y0, x1, y1, hbx⟩ := boxV_agg ps
      rw [hbx]
      have HBX := hid hbx
      clear hbx
      go_wp2_with (go_at_call 26; fail)
      go_at_call 26
      refine (raround_pos bk off n cp ps _ hps h1 (by omega) (HP.out.later B6)).mono ?_
      rintro r' w7 ⟨rfl, hb7⟩
      have B7 : Below w.heap.size w w7 := B6.trans (hb7.mono B6.size)
      have M7 := M6.later hb7
      clear B6 M6 hb7
      rw [HBX.out]
      have hq := neqB x0 y0 x1 y1
      go_wp2
      clear hq
      go_loopw [14] (fun i wr => ∃ k : Nat, k ≤ n ∧ i = .int .i64 k ∧ At wr w.heap.size 44 #[.int .i64 a, .int .i64 b, .int .i64 c, .int .i64 d, .int .i64 e, .int .i64 f] ∧ Below w.heap.size w wr) (fun i _ => n - (intOf i).toNat)
      case atStart => exact ⟨0, Nat.zero_le _, rfl, M7, B7⟩
      case round =>
        obtain ⟨j, hj, rfl, hM, hB⟩ := hrel
        clear M7 B7
        by_cases hjn : j < n
        · have hjn' : (j : Int) < n := by omega
          obtain ⟨e0, e1⟩ := HP.out.2 j (by omega)
          have hbw := HP.out.1
          generalize (ps.getD j (0, 0)).1 = px at e0 e1
          generalize (ps.getD j (0, 0)).2 = py at e0 e1
          have d0 := (hB.cell (p := ⟨bk, off + j * 2, none⟩) hbw).trans e0
          have d1 := (hB.cell (p := ⟨bk, off + j * 2 + 1, none⟩) hbw).trans e1
          have hbr : bk < wr.heap.size := Nat.lt_of_lt_of_le hbw hB.size
          have E0 := hid e0
          have E1 := hid e1
          have mc := hM.cell
          have mz := hM.lt
          clear e0 e1
          go_wp2
          go_cut [15, 16] from 100 to 132 (fun p er wx => ∃ bx : Nat, p = .pointer (some ⟨bx, 0, none⟩) ∧ er = errN (apE a b c d e f px py) ∧ At wx bx 55 #[.int .i64 (apX a b c d e f px py), .int .i64 (apY a b c d e f px py)] ∧ At wx w.heap.size 44 #[.int .i64 a, .int .i64 b, .int .i64 c, .int .i64 d, .int .i64 e, .int .i64 f] ∧ Below w.heap.size w wx)
          case first =>
            go_region_with (go_at_call 27; refine (apply_any _ _ _ _ _ _ _ _ _).mono ?_; rintro r' w8 ⟨rfl, hb8⟩; have g8 := fun o => hb8.cell (p := ⟨wr.heap.size, o, none⟩); have q8 := fun o => hb8.frozen (p := ⟨wr.heap.size, o, none⟩))
            all_goals
              go_wp2_with fail
              go_meet
              case rel => first | exact ⟨_, rfl, rfl, relA hM hB hb8 rfl⟩ | exact ⟨_, rfl, rfl, relB hM hB hb8⟩
          case rest =>
            obtain ⟨bx, rfl, rfl, hX, hM2, hB2⟩ := hcut
            clear hM hB mc mz d0 d1 hbr
            have d0 := (hB2.cell (p := ⟨bk, off + j * 2, none⟩) hbw).trans E0.out
            have d1 := (hB2.cell (p := ⟨bk, off + j * 2 + 1, none⟩) hbw).trans E1.out
            have hbr : bk < wc.heap.size := Nat.lt_of_lt_of_le hbw hB2.size
            have mc := hM2.cell
            have mz := hM2.lt
            go_wp2
            go_cut [17, 18] from 100 to 132 (fun p er wx => ∃ bz : Nat, p = .pointer (some ⟨bz, 0, none⟩) ∧ er = .int .i64 (apE a b c d e f px py) ∧ (At wx bz 55 #[.int .i64 (apX a b c d e f px py), .int .i64 (apY a b c d e f px py)] ∧ At wx w.heap.size 44 #[.int .i64 a, .int .i64 b, .int .i64 c, .int .i64 d, .int .i64 e, .int .i64 f] ∧ Below w.heap.size w wx) ∧ At wx bx 55 #[.int .i64 (apX a b c d e f px py), .int .i64 (apY a b c d e f px py)])
            case first =>
              go_region_with (go_at_call 28; refine (rapply_any _ _ _ _ _ _ _ _ _).mono ?_; rintro r' w9 ⟨rfl, hb9⟩; have g9 := fun o => hb9.cell (p := ⟨wc.heap.size, o, none⟩); have q9 := fun o => hb9.frozen (p := ⟨wc.heap.size, o, none⟩))
              all_goals
                go_wp2_with fail
                go_meet
                case rel => first | exact ⟨_, rfl, rfl, relA hM2 hB2 hb9 rfl, (relA hX hB2 hb9 rfl).2.1⟩ | exact ⟨_, rfl, rfl, relB hM2 hB2 hb9, (relB hX hB2 hb9).2.1⟩
            case rest =>
              obtain ⟨bz, rfl, rfl, ⟨hY, hM3, hB3⟩, hX3⟩ := hcut
              clear hM2 hB2 mc mz d0 d1 hbr hX
              have xc := hX3.cell
              have yc := hY.cell
              have hq := neqP (apX a b c d e f px py) (apY a b c d e f px py)
              have nA := apE_01 a b c d e f px py
              go_wp2_with (go_at_call 8; refine (same_any _ _ _ (by omega)).mono ?_; rintro r' w' ⟨rfl, rfl⟩)
              go_roundw
              case rel => exact ⟨j + 1, by omega, by go_num, hM3, hB3⟩
              case measure => simp [intOf]; omega
        · go_wp2
          go_ret
          exact ⟨rfl, hB⟩
set_option maxHeartbeats 4000000 in
theorem matrixSays_zero (m : Int) (a b c d e f A B C D E F : Int) (v : Option Addr) (cp : Nat) (w : World) (hr : Rdy m w) :
    Calls Tryd.prog 5 #[.agg #[.int .i64 a, .int .i64 b, .int .i64 c, .int .i64 d, .int .i64 e, .int .i64 f], .agg #[.int .i64 A, .int .i64 B, .int .i64 C, .int .i64 D, .int .i64 E, .int .i64 F], .slice v 0 cp] w fun e w' => e = .returned (.bool true) ∧ Below w.heap.size w w' := by
  have hr1 : ∀ o o', Rdy m ((w.alloc o).alloc o') := fun o o' => hr.below (by go_grown)
  go_enter Tryd.func5, Tryd.ntmps5
  go_wp2_with (go_at_call 11; fail)
  go_at_call 11
  refine (fixes_any m _ (hr1 _ _)).mono ?_
  rintro r w1 ⟨rfl, hb1, _⟩
  have B1 : Below w.heap.size w w1 := Below.trans (by go_grown) (hb1.mono (by simp; omega))
  have M1 := ((At.new w #[.int .i64 a, .int .i64 b, .int .i64 c, .int .i64 d, .int .i64 e, .int .i64 f] 44 rfl).alloc _).later hb1
  have N1 := (At.new (w.alloc _) #[.int .i64 A, .int .i64 B, .int .i64 C, .int .i64 D, .int .i64 E, .int .i64 F] 44 (b := w.heap.size + 1) (by simp)).later hb1
  clear hb1 hr1
  go_wp2_with (go_at_call 22; fail)
  go_at_call 22
  refine (unit_any _).mono ?_
  rintro r w2 ⟨rfl, hb2⟩
  have B2 : Below w.heap.size w w2 := B1.trans (hb2.mono B1.size)
  have M2 := M1.later hb2
  have N2 := N1.later hb2
  clear hb2 M1 N1 B1
  have mc := M2.cell
  have nc := N2.cell
  go_wp2
  clear mc nc
  have B3 := B2.alloc B2.size (.cells #[.int .i64 a, .int .i64 b, .int .i64 c, .int .i64 d, .int .i64 e, .int .i64 f, .int .i64 A, .int .i64 B, .int .i64 C, .int .i64 D, .int .i64 E, .int .i64 F] 3)
  have M3 := M2.alloc (.cells #[.int .i64 a, .int .i64 b, .int .i64 c, .int .i64 d, .int .i64 e, .int .i64 f, .int .i64 A, .int .i64 B, .int .i64 C, .int .i64 D, .int .i64 E, .int .i64 F] 3)
  have N3 := N2.alloc (.cells #[.int .i64 a, .int .i64 b, .int .i64 c, .int .i64 d, .int .i64 e, .int .i64 f, .int .i64 A, .int .i64 B, .int .i64 C, .int .i64 D, .int .i64 E, .int .i64 F] 3)
  have K3 := At.new w2 #[.int .i64 a, .int .i64 b, .int .i64 c, .int .i64 d, .int .i64 e, .int .i64 f, .int .i64 A, .int .i64 B, .int .i64 C, .int .i64 D, .int .i64 E, .int .i64 F] 3 rfl
  clear M2 N2 B2
  generalize w2.alloc (.cells #[.int .i64 a, .int .i64 b, .int .i64 c, .int .i64 d, .int .i64 e, .int .i64 f, .int .i64 A, .int .i64 B, .int .i64 C, .int .i64 D, .int .i64 E, .int .i64 F] 3) = w3 at *
  go_loop [64] (fun i => ∃ k : Nat, k ≤ 12 ∧ i = .int .i64 k) (fun i => 12 - (intOf i).toNat)
  case atStart => exact ⟨0, by omega, rfl⟩
  case round =>
    obtain ⟨k, hk, rfl⟩ := hrel
    by_cases hlt : k < 12
    · obtain ⟨z, hz⟩ : ∃ z, w3.cell? ⟨w2.heap.size, k, none⟩ = some (.int .i64 z) := cell12 K3 k hlt
      have hlt' : (k : Int) < 12 := by omega
      have fz := flt_01 z
      by_cases hb : 0 < flt z
      · go_wp2_with (go_at_call 12; refine (fault_any _ _).mono ?_; rintro r w' ⟨rfl, rfl⟩)
        go_ret
        exact ⟨rfl, B3⟩
      · go_wp2_with (go_at_call 12; refine (fault_any _ _).mono ?_; rintro r w' ⟨rfl, rfl⟩)
        go_round
        case rel => exact ⟨k + 1, by omega, by go_num⟩
        case measure => simp [intOf]; omega
    · clear K3
      have mc := M3.cell
      have nc := N3.cell
      go_wp2_with (go_at_call 23; fail)
      clear mc nc
      go_at_call 23
      refine (concat_any _ _ _ _ _ _ _ _ _ _ _ _ _).mono ?_
      rintro r w4 ⟨rfl, hb4⟩
      have B4 : Below w.heap.size w w4 := B3.trans (hb4.mono B3.size)
      have M4 := M3.later hb4
      have N4 := N3.later hb4
      clear M3 N3 B3 hb4
      obtain ⟨p, q, r, s, t, u, hco⟩ := coV_agg a b c d e f A B C D E F
      have nE := coE_01 a b c d e f A B C D E F
      rw [hco]
      have HC := hid hco
      clear hco
      have mc := fun o => (M4.alloc o).cell
      have nc := fun o => (N4.alloc o).cell
      go_wp2_with (go_at_call 24; fail)
      clear mc nc
      go_at_call 24
      refine (rconcat_any _ _ _ _ _ _ _ _ _ _ _ _ _).mono ?_
      rintro r' w5 ⟨rfl, hb5⟩
      have B5 : Below w.heap.size w w5 := (B4.alloc B4.size _).trans (hb5.mono (by have := B4.size; simp; omega))
      have M5 := (M4.alloc _).later hb5
      have X5 := (At.new w4 #[.int .i64 p, .int .i64 q, .int .i64 r, .int .i64 s, .int .i64 t, .int .i64 u] 44 rfl).later hb5
      clear M4 N4 B4 hb5
      rw [HC.out]
      have xc := fun o => (X5.alloc o).cell
      have hq := neqM p q r s t u
      go_wp2_with (first
        | (go_at_call 8; refine (same_any _ _ _ (by omega)).mono ?_; rintro r' w' ⟨rfl, rfl⟩)
        | (go_at_call 25; fail))
      clear xc hq
      have B5' := B5.alloc B5.size (.cells #[.int .i64 p, .int .i64 q, .int .i64 r, .int .i64 s, .int .i64 t, .int .i64 u] 44)
      have M5' := M5.alloc (.cells #[.int .i64 p, .int .i64 q, .int .i64 r, .int .i64 s, .int .i64 t, .int .i64 u] 44)
      clear B5 M5 X5
      go_at_call 25
      refine (around_zero v cp _).mono ?_
      rintro r' w6 ⟨rfl, hb6⟩
      have B6 : Below w.heap.size w w6 := B5'.trans (hb6.mono B5'.size)
      clear B5' M5' hb6
      go_wp2_with (go_at_call 26; fail)
      go_at_call 26
      refine (raround_zero v cp _).mono ?_
      rintro r' w7 ⟨rfl, hb7⟩
      have B7 : Below w.heap.size w w7 := B6.trans (hb7.mono B6.size)
      clear B6 hb7
      have hq := neqB 0 0 0 0
      go_wp2
      clear hq
      go_rounds 1
      go_ret
      exact ⟨rfl, B7⟩

end Go.Proofs.YtkechdflcmgciaaDoor
