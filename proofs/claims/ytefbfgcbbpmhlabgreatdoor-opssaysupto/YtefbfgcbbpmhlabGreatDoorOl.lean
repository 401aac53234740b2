/-
  Joined: Vb, Kd, Ol.
-/
import Derived.Test.YtefbfgcbbpmhlabGreatDoorYc
import Derived.Test.YtefbfgcbbpmhlabGreatDoorAp
import Derived.Test.YtefbfgcbbpmhlabGreatDoorQa
import Derived.Laws.EntriesVeiled
import Derived.Lib.Builder
import Derived.Lib.Walk
import Derived.Laws.Externs

/-
  Contracts over values that only look: how heavy one is (some number), how many parts it has and how deep it is.
-/
namespace Go.Proofs.YtefbfgcbbpmhlabGreatDoor
open Go.RowKit
set_option maxRecDepth 100000

set_option maxHeartbeats 1000000 in
theorem weight_step (d : Nat) (most : Int)
    (ih : ∀ (v : V) (cs : List Value) (w : World), RepN d w v cs → Calls Tryz.prog 37 #[.agg cs.toArray, .int .i64 most] w fun e w' => (∃ z : Int, e = .returned (.int .i64 z)) ∧ Below w.heap.size w w')
    (v : V) (cs : List Value) (w : World) (hv : RepN (d + 1) w v cs) :
    Calls Tryz.prog 37 #[.agg cs.toArray, .int .i64 most] w fun e w' => (∃ z : Int, e = .returned (.int .i64 z)) ∧ Below w.heap.size w w' := by
  obtain ⟨al, af, cl, cf, rfl, ⟨hs, hl, hf⟩, hL, hF⟩ := hv
  unfold maxLen at hs hl hf
  have HL := hid hL
  have HF := hid hF
  clear hL hF
  go_enter Tryz.func37, Tryz.ntmps37
  go_upto_block 0 with fail
  go_cut [5] from 12 to 32 (fun t wx => ∃ z : Int, t = .int .i64 z ∧ BoxV wx w.heap.size v al af cl cf ∧ Below w.heap.size w wx)
  case first =>
    go_wp2_with fail
    go_loopw [5, 6] (fun t i wr => ∃ (j : Nat) (z : Int), i = .int .i64 j ∧ t = .int .i64 z ∧ j ≤ v.l.length ∧ BoxV wr w.heap.size v al af cl cf ∧ Below w.heap.size w wr) (fun _ i _ => v.l.length - (intOf i).toNat)
    case atStart => exact ⟨0, _, rfl, rfl, Nat.zero_le _, At.new _ _ _ rfl, by go_grown⟩
    case round =>
      obtain ⟨j, z, rfl, rfl, hj, hA, hB⟩ := hrel
      have mc := hA.cell
      have mz := hA.lt
      by_cases hjl : j < v.l.length
      · have hjl' : (j : Int) < v.l.length := by omega
        by_cases hzm : z ≤ most
        · obtain ⟨b, off, c, rfl, hbl, hc, hr⟩ := HL.out j v.l[j] (List.getElem?_eq_getElem hjl)
          have hr' := hr.later (hB : Below w.heap.size w wr)
          have hbr : b < wr.heap.size := Nat.lt_of_lt_of_le hbl hB.size
          obtain ⟨k1, n1, s1, a1, l1, c1, a2, l2, c2, rfl, g0, g1, g2, g3, g4⟩ := rep_cells hr' (hc.later hbl hB)
          have HR := hid hr'
          clear hr hr' hc
          go_wp2_with (go_at_call 37; refine (ih v.l[j] _ _ HR.out).mono ?_; rintro e w1 ⟨⟨z1, rfl⟩, hb1⟩)
          go_roundw
          case rel => exact ⟨j + 1, _, by go_num, rfl, by omega, hA.later hb1, hB.trans (hb1.mono hB.size)⟩
          case measure => simp [intOf]; omega
        · go_wp2_with fail
          go_meet
          case rel => exact ⟨z, rfl, hA, hB⟩
      · have hjl' : ¬ (j : Int) < v.l.length := by omega
        go_wp2_with fail
        go_meet
        case rel => exact ⟨z, rfl, hA, hB⟩
  case rest =>
    obtain ⟨z, rfl, hA, hB⟩ := hcut
    go_wp2_with fail
    go_loopw [5, 7] (fun t i wq => ∃ (p : Nat) (y : Int), i = .int .i64 p ∧ t = .int .i64 y ∧ p ≤ v.f.length ∧ BoxV wq w.heap.size v al af cl cf ∧ Below w.heap.size w wq) (fun _ i _ => v.f.length - (intOf i).toNat)
    case atStart => exact ⟨0, z, rfl, rfl, Nat.zero_le _, hA, hB⟩
    case round =>
      clear hA hB
      obtain ⟨p, y, rfl, rfl, hp, hA, hB⟩ := hrel
      have mc := hA.cell
      have mz := hA.lt
      by_cases hpl : p < v.f.length
      · have hpl' : (p : Int) < v.f.length := by omega
        by_cases hym : y ≤ most
        · obtain ⟨b, off, c, rfl, hbl, hnm, hcn, hc, hr⟩ := HF.out p v.f[p] (List.getElem?_eq_getElem hpl)
          have hr' := hr.later hB
          have hbr : b < wr.heap.size := Nat.lt_of_lt_of_le hbl hB.size
          obtain ⟨k1, n1, s1, a1, l1, c1, a2, l2, c2, rfl, g0, g1, g2, g3, g4⟩ := rep_cells hr' (hc.later hbl hB)
          have hcn' := (hB.cell (p := ⟨b, off + p * 6, none⟩) hbl).trans hcn
          have HR := hid hr'
          clear hr hr' hc hcn
          generalize v.f[p].1 = nm at *
          go_upto_block 3 with fail
          go_cut [5] from 33 to 62 (fun t wx => ∃ z : Int, t = .int .i64 z ∧ BoxV wx w.heap.size v al (some ⟨b, off, none⟩) cl cf ∧ Below w.heap.size w wx)
          case first =>
            go_wp2_with fail
            go_region_with (go_at_call 37; refine (ih v.f[p].2 _ _ (HR.out.later (by go_grown))).mono ?_; rintro e w1 ⟨⟨z1, rfl⟩, hb1⟩; have x1 := hb1.cell (p := ⟨b, off + p * 6, none⟩) hbr; have x2 := fun o => hb1.cell (p := ⟨w.heap.size, o, none⟩) mz)
            all_goals
              go_wp2_with fail
              go_meet
              case rel => exact ⟨_, rfl, hA.later (below_undrew hb1), hB.trans ((below_undrew hb1).mono hB.size)⟩
          case rest =>
            clear hA hB mc mz
            obtain ⟨y', rfl, hA, hB⟩ := hcut
            go_wp2_with fail
            go_roundw
            case rel => exact ⟨p + 1, y', by go_num, rfl, by omega, hA, hB⟩
            case measure => simp [intOf]; omega
        · go_wp2_with fail
          go_ret
          exact ⟨⟨y, rfl⟩, hB⟩
      · have hpl' : ¬ (p : Int) < v.f.length := by omega
        go_wp2_with fail
        go_ret
        exact ⟨⟨y, rfl⟩, hB⟩
theorem weight_any (d : Nat) (most : Int) : ∀ (v : V) (cs : List Value) (w : World), RepN d w v cs → Calls Tryz.prog 37 #[.agg cs.toArray, .int .i64 most] w fun e w' => (∃ z : Int, e = .returned (.int .i64 z)) ∧ Below w.heap.size w w' := by
  induction d with
  | zero => intro v cs w h; exact h.elim
  | succ d ih => exact fun v cs w h => weight_step d most ih v cs w h
theorem LightValue_any {d : Nat} {v : V} {cs : List Value} {w : World} (hv : RepN d w v cs) : Calls Tryz.prog 12 #[.agg cs.toArray] w fun e w' => (∃ r : Bool, e = .returned (.bool r)) ∧ Below w.heap.size w w' := by
  obtain ⟨e, rfl⟩ := hv.inv
  have H := hid hv
  obtain ⟨al, af, cl, cf, rfl, _⟩ := hv
  go_enter Tryz.func12, Tryz.ntmps12
  go_wp2_with (go_at_call 37; refine (weight_any _ 6000 v _ _ (H.out.later (by go_grown))).mono ?_; rintro e w1 ⟨⟨z1, rfl⟩, hb1⟩)
  go_ret
  exact ⟨⟨_, rfl⟩, Below.trans (by go_grown) (hb1.mono (by simp))⟩

end Go.Proofs.YtefbfgcbbpmhlabGreatDoor

/-
  Texts that are built piece by piece (strings.Builder).
-/
namespace Go.Proofs.YtefbfgcbbpmhlabGreatDoor
open Go.RowKit
set_option maxRecDepth 100000

/-- A builder's block. -/
abbrev BdC (w : World) (P : Nat) (ad v : Value) : Prop := At w P 151 #[ad, v]
set_option maxHeartbeats 1000000 in
theorem copyCheck_says (P : Nat) (ad v : Value) (w : World) (h : ad = .pointer none ∨ ad = .pointer (some ⟨P, 0, none⟩)) (hA : BdC w P ad v) :
    Calls Tryz.prog 133 #[.pointer (some ⟨P, 0, none⟩)] w fun e w' => e = .returned (.tuple #[]) ∧ BdC w' P (.pointer (some ⟨P, 0, none⟩)) v ∧ KeepBut P w w' := by
  have c0 := hA.cell 0
  have f0 := hA.free 0
  have z0 := hA.lt
  simp at c0
  have HA := hid hA
  clear hA
  obtain ⟨j, hj, hjs⟩ := Option.map_eq_some_iff.1 (show (Tryz.prog.info? 151).map (·.size) = some 2 by kernel_rfl)
  have hsh : w.shape? P = some (151, 2) := by have q := HA.out; unfold BdC At at q; simp [World.shape?, q]
  rcases h with rfl | rfl
  · go_enter Tryz.func133, Tryz.ntmps133
    go_wp2
    rw [Lib.run_to_unsafe w ⟨P, 0, none⟩ Tryz.underlying148 Tryz.underlying247 hj (by rw [hjs]; decide) hsh (Nat.zero_lt_succ 1)]
    simp only [Result.andThen]
    rw [Oper.upon_value]
    go_wp2
    rw [run_callFunc_extern Tryz.func192 (by kernel_rfl) (by kernel_rfl) (by kernel_rfl) (e := Extern.AbiNoEscape.same) (by kernel_rfl)]
    rw [Lib.run_noEscape]
    simp only [Result.andThen]
    rw [Oper.upon_value]
    go_wp2
    rw [Lib.run_from_unsafe w ⟨P, 0, none⟩ Tryz.underlying247 Tryz.underlying148 hj hsh (by kernel_rfl)]
    simp only [Result.andThen]
    rw [Oper.upon_value]
    go_wp2
    go_end0
    refine ⟨rfl, ?_, (KeepBut.refl P w).set 0 _⟩
    unfold BdC At
    rw [setCell_eq_setRow w P 0 _ _ (0, 0) _ HA.out]
    exact setRow_heap w P _ _ _ _ HA.out
  · go_enter Tryz.func133, Tryz.ntmps133
    go_wp2
    rw [Lib.run_neq_ptr_same _ _ Tryz.underlying148 hj]
    go_wp2
    go_end0
    exact ⟨rfl, HA.out, KeepBut.refl P w⟩
theorem own8_sl {w : World} {B : Nat} {v : Value} {xs : List UInt8} (h : Own8 w B v xs) : ∃ a n k, v = Value.slice a n k := by
  rcases h.2 with ⟨e, _⟩ | ⟨g, cap, cur, e, _⟩
  · exact ⟨_, _, _, e⟩
  · exact ⟨_, _, _, e⟩
set_option maxHeartbeats 1000000 in
theorem write_says (P B : Nat) (ad v : Value) (xs : List UInt8) (s : ByteArray) (w : World) (hP : P < B) (hB : B ≤ w.heap.size) (hl : xs.length + s.size ≤ 100000000) (h : ad = .pointer none ∨ ad = .pointer (some ⟨P, 0, none⟩)) (hA : BdC w P ad v) (hO : Own8 w B v xs) :
    Calls Tryz.prog 84 #[.pointer (some ⟨P, 0, none⟩), .string s] w fun e w' => e = .returned (.tuple #[.int .i64 s.size, .nilIface]) ∧ (∃ v', BdC w' P (.pointer (some ⟨P, 0, none⟩)) v' ∧ Own8 w' B v' (xs ++ s.data.toList)) ∧ Below P w w' := by
  have HC := hid (copyCheck_says P ad v w h hA)
  have HO := hid hO
  have hPl := hA.lt
  clear hA hO h
  go_enter Tryz.func84, Tryz.ntmps84
  go_wp2_with (go_at_call 133; fail)
  go_at_call 133
  refine HC.out.mono ?_
  rintro e w1 ⟨rfl, A1, K1⟩
  have c1 := A1.cell 1
  have f1 := A1.free 1
  have z1 := A1.lt
  simp at c1
  have hB1 : B ≤ w1.heap.size := Nat.le_trans hB K1.size
  have HO1 := hid (World.ownsRow.kept HO.out (row := some P) ⟨K1.os, K1.tape, K1.output, K1.size, fun i hi hne => K1.block i hi (fun e => hne (by rw [e]))⟩ (.inr fun e => by have := (World.ownsRow.lt HO.out P e).1; omega))
  have hbelow : Below P w w1 := ⟨K1.os, K1.tape, K1.output, K1.size, fun k hk => K1.block k (by omega) (by omega)⟩
  go_wp2_with (at_builtin; refine wpApp8s rfl _ _ rfl B _ xs rfl HO1.out s rfl s.data.toList rfl (by omega) hB1 ?_; intro v2 w2 ho2 hk2; obtain ⟨a2, n2, k2, e2⟩ : ∃ a n k, v2 = Value.slice a n k := (own8_sl ho2); subst e2; replace ho2 := hid ho2; have A2 : BdC w2 P (.pointer (some ⟨P, 0, none⟩)) v := hk2.at (by decide) A1; have c2 := A2.cell 1; have f2 := A2.free 1; have z2 := A2.lt; simp at c2; clear c1 f1 z1)
  have hb2 : Below P w w2 := hbelow.trans (hk2.below.mono (by omega))
  go_ret2
  refine ⟨rfl, ⟨.slice a2 n2 k2, ?_, ?_⟩, ?_⟩
  · unfold BdC At
    rw [setCell_eq_setRow w2 P 1 _ _ (0, 0) _ A2]
    exact setRow_heap w2 P _ _ _ _ A2
  · exact World.ownsRow.kept ho2.out (row := some P) ⟨rfl, rfl, rfl, by simp [World.setCell], fun i hi hne => Below.heap_setCell _ _ _ _ (fun e => hne (by rw [e]))⟩ (.inr fun e => by have := (World.ownsRow.lt ho2.out P e).1; omega)
  · exact hb2.setCell (p := ⟨P, 1, none⟩) (Nat.le_refl _) _
end Go.Proofs.YtefbfgcbbpmhlabGreatDoor

/-
  A byte more of a text that is built piece by piece.
-/
namespace Go.Proofs.YtefbfgcbbpmhlabGreatDoor
open Go.RowKit
set_option maxRecDepth 100000

set_option maxHeartbeats 1000000 in
theorem writeByte_says (P B : Nat) (ad v : Value) (xs : List UInt8) (c : UInt8) (w : World) (hP : P < B) (hB : B ≤ w.heap.size) (hl : xs.length ≤ 100000000) (h : ad = .pointer none ∨ ad = .pointer (some ⟨P, 0, none⟩)) (hA : BdC w P ad v) (hO : Own8 w B v xs) :
    Calls Tryz.prog 132 #[.pointer (some ⟨P, 0, none⟩), .int .u8 (c.toNat : Int)] w fun e w' => e = .returned .nilIface ∧ (∃ v', BdC w' P (.pointer (some ⟨P, 0, none⟩)) v' ∧ Own8 w' B v' (xs ++ [c])) ∧ Below P w w' := by
  have HC := hid (copyCheck_says P ad v w h hA)
  have HO := hid hO
  have hPl := hA.lt
  clear hA hO h
  go_enter Tryz.func132, Tryz.ntmps132
  go_wp2_with (go_at_call 133; fail)
  go_at_call 133
  refine HC.out.mono ?_
  rintro e w1 ⟨rfl, A1, K1⟩
  have c1 := A1.cell 1
  have f1 := A1.free 1
  have z1 := A1.lt
  simp at c1
  have hB1 : B ≤ w1.heap.size := Nat.le_trans hB K1.size
  have HO1 := hid (show Own8 w1 B v xs from World.ownsRow.kept HO.out (row := some P) ⟨K1.os, K1.tape, K1.output, K1.size, fun i hi hne => K1.block i hi (fun e => hne (by rw [e]))⟩ (.inr fun e => by have := (World.ownsRow.lt HO.out P e).1; omega))
  have hbelow : Below P w w1 := ⟨K1.os, K1.tape, K1.output, K1.size, fun k hk => K1.block k (by omega) (by omega)⟩
  go_wp2_with (at_builtin; go_loud (refine wpApp8 (W := w1) rfl _ _ rfl B v xs rfl HO1.out _ [c] 1 1 rfl rfl rfl (by omega) hB1 ?_); intro v2 w2 ho2 hk2; obtain ⟨a2, n2, k2, e2⟩ : ∃ a n k, v2 = Value.slice a n k := (own8_sl ho2); subst e2; replace ho2 := hid ho2; have A2 : BdC w2 P (.pointer (some ⟨P, 0, none⟩)) v := hk2.at (by decide) A1; have c2 := A2.cell 1; have f2 := A2.free 1; have z2 := A2.lt; simp at c2; clear c1 f1 z1)
  have hb2 : Below P w w2 := hbelow.trans (hk2.below.mono (by omega))
  go_ret
  refine ⟨rfl, ⟨.slice a2 n2 k2, ?_, ?_⟩, ?_⟩
  · unfold BdC At
    rw [setCell_eq_setRow w2 P 1 _ _ (0, 0) _ A2]
    exact setRow_heap w2 P _ _ _ _ A2
  · exact World.ownsRow.kept ho2.out (row := some P) ⟨rfl, rfl, rfl, by simp [World.setCell], fun i hi hne => Below.heap_setCell _ _ _ _ (fun e => hne (by rw [e]))⟩ (.inr fun e => by have := (World.ownsRow.lt ho2.out P e).1; omega)
  · exact hb2.setCell (p := ⟨P, 1, none⟩) (Nat.le_refl _) _
end Go.Proofs.YtefbfgcbbpmhlabGreatDoor
