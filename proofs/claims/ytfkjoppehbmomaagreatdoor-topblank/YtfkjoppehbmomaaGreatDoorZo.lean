/-
  Joined: Zn, Zo.
-/
import Derived.Test.YtfkjoppehbmomaaGreatDoorPi
import Derived.Test.YtfkjoppehbmomaaGreatDoorZm
import Derived.Test.YtfkjoppehbmomaaGreatDoorVd3
import Derived.Test.YtfkjoppehbmomaaGreatDoorVm

/-
  The law of blanks.
-/
namespace Go.Proofs.YtfkjoppehbmomaaGreatDoor
open Go.RowKit
set_option maxRecDepth 100000

theorem skipL_note : ∀ (l r : List UInt8), (∀ c ∈ l, c ≠ 10 ∧ c ≠ 13) → skipL (l ++ 10 :: r) true = l.length + 1 + skipL r false
  | [], r, _ => by
    show skipL (10 :: r) true = 0 + 1 + skipL r false
    conv => lhs; unfold skipL
    rw [if_neg (by decide)]
    show skipL r false + 1 = _
    omega
  | c :: l, r, h => by
    obtain ⟨h1, h2⟩ := h c (by simp)
    have ih := skipL_note l r (fun d hd => h d (by simp [hd]))
    show skipL (c :: (l ++ 10 :: r)) true = _
    have e : (c == 37 || (true && c != 10 && c != 13)) = true := by
      have a : (c != 10) = true := by simpa using h1
      have b : (c != 13) = true := by simpa using h2
      rw [a, b]; simp
    conv => lhs; unfold skipL
    rw [e, if_neg (by simp), ih]
    simp; omega
theorem skip_ahead {s note X : ByteArray} (hX : X.data.toList = 32 :: 37 :: (note.data.toList ++ 10 :: s.data.toList)) (hn : ∀ c ∈ note.data.toList, c ≠ 10 ∧ c ≠ 13) : skipP X 0 = (note.size + 3) + skipP s 0 := by
  unfold skipP
  rw [List.drop_zero, List.drop_zero, hX]
  have e1 : skipL (32 :: 37 :: (note.data.toList ++ 10 :: s.data.toList)) false = skipL (37 :: (note.data.toList ++ 10 :: s.data.toList)) false + 1 := by
    conv => lhs; unfold skipL
    rw [if_neg (by decide)]; rfl
  have e2 : skipL (37 :: (note.data.toList ++ 10 :: s.data.toList)) false = skipL (note.data.toList ++ 10 :: s.data.toList) true + 1 := by
    conv => lhs; unfold skipL
    rw [if_neg (by decide)]; rfl
  rw [e1, e2, skipL_note _ _ hn]
  simp; omega
theorem shift_ahead {s note X : ByteArray} (hX : X.data.toList = 32 :: 37 :: (note.data.toList ++ 10 :: s.data.toList)) : Shift (note.size + 3) s X := by
  have hl : X.data.toList = (32 :: 37 :: (note.data.toList ++ [10])) ++ s.data.toList := by rw [hX]; simp
  have hn : (32 :: 37 :: (note.data.toList ++ [10])).length = note.size + 3 := by simp
  refine ⟨?_, fun k => ?_⟩
  · have := congrArg List.length hl
    rw [List.length_append, hn] at this
    simpa using this
  · rw [hl, ← hn, List.drop_append]
    simp
theorem pV_ok {s : ByteArray} {v : V} {z : Nat} (h : pV s 0 = (v, 0, z)) : s.size ≤ 60000 ∧ rdV s 8 0 = (v, 0, z) ∧ faultV v = 0 := by
  unfold pV at h
  have e0 : (0 : Int).toNat = 0 := rfl
  rw [e0] at h
  by_cases h1 : 60000 < s.size ∨ (0 : Int) < 0 ∨ (s.size : Int) < 0
  · rw [if_pos h1] at h; injection h with _ h; injection h with h _; exact absurd h (by decide)
  rw [if_neg h1] at h
  by_cases h2 : (rdV s 8 0).2.1 ≠ 0
  · rw [if_pos h2] at h; injection h with _ h; injection h with h _; exact absurd h h2
  rw [if_neg h2] at h
  by_cases h3 : faultV (rdV s 8 0).1 ≠ 0
  · rw [if_pos h3] at h; injection h with _ h; injection h with h _; exact absurd h h3
  rw [if_neg h3] at h
  refine ⟨by omega, h, ?_⟩
  rw [h] at h3
  simpa using h3
theorem pV_mk {s : ByteArray} {v : V} {z : Nat} (hs : s.size ≤ 60000) (h : rdV s 8 0 = (v, 0, z)) (hf : faultV v = 0) : pV s 0 = (v, 0, z) := by
  unfold pV
  have e0 : (0 : Int).toNat = 0 := rfl
  rw [e0, if_neg (by omega), h, if_neg (by simp), if_neg (by simp [hf])]
theorem pV_ahead {s note X : ByteArray} {v : V} {z : Nat} (h : pV s 0 = (v, 0, z)) (hX : X.data.toList = 32 :: 37 :: (note.data.toList ++ 10 :: s.data.toList)) (hn : ∀ c ∈ note.data.toList, c ≠ 10 ∧ c ≠ 13) (hs : X.size ≤ 60000) : pV X 0 = (v, 0, (note.size + 3) + z) := by
  obtain ⟨_, h2, h3⟩ := pV_ok h
  obtain ⟨q1, q2, q3⟩ := (shift_ahead hX).ahead (skip_ahead hX hn) 7
  rw [h2] at q1 q2 q3
  simp only at q1 q2 q3
  refine pV_mk hs ?_ h3
  have q4 := q3 trivial
  generalize rdV X (7 + 1) 0 = r at q1 q2 q4 ⊢
  obtain ⟨a, b, c⟩ := r
  simp only at q1 q2 q4
  rw [q1, q2, q4]
theorem pV_behind {s T : ByteArray} {v : V} {z : Nat} {l : List UInt8} (h : pV s 0 = (v, 0, z)) (hk : v.k ≠ 2) (hT : T.data.toList = s.data.toList.take z ++ 32 :: l) (hs : T.size ≤ 60000) : pV T 0 = (v, 0, z) := by
  obtain ⟨_, h2, h3⟩ := pV_ok h
  have hz : z ≤ s.size := by
    have := (rdV_fits s 8 0 (Nat.zero_le _) (by rw [h2])).2
    rw [h2] at this; exact this
  have hl : (s.data.toList.take z).length = z := by rw [List.length_take]; simp; omega
  have hU : Upto z s T := ⟨hz, fun i hi => by rw [hT, List.getElem?_append_left (by omega), List.getElem?_take, if_pos hi], by rw [hT, List.getElem?_append_right (by omega), hl, Nat.sub_self]; rfl⟩
  have e := rdV_loc hU 8 0 (Nat.zero_le _) (by rw [h2]) (by rw [h2]; exact Nat.le_refl _) (fun q => by rw [h2] at q; exact absurd q hk)
  exact pV_mk hs (e.trans h2) h3
/-- The closed fact. -/
def bkS : ByteArray := ⟨#[37, 120, 10, 55, 32, 56]⟩
theorem bk_fact : rdV bkS 8 0 = (V0 2 7000 eB, 0, 4) := by kernel_rfl
theorem bk_pv : pV bkS 0 = (V0 2 7000 eB, 0, 4) := by
  refine pV_mk (by decide) bk_fact (fault_none (by rw [cnt_eq, dep_eq]; simp [V0, cntL, cntF, depL, depF]) ?_)
  rw [shp_eq]
  exact ⟨.inr (.inr (.inl ⟨rfl, rfl, rfl, rfl, rfl⟩)), by rw [shpL_iff]; simp [V0], by rw [shpF_iff]; simp [V0]⟩
theorem valueOk (m : Int) (x : ByteArray) (v : V) (z : Nat) (w : World) (hG : Gr m w) (hx : x.size ≤ maxLen) (h : pV x 0 = (v, 0, z)) :
    Calls Tryz.prog 7 #[.string x, .int .i64 0] w fun e w' => ∃ (al af : Option Addr) (l1 cl l2 cf : Nat), e = .returned (.tuple #[.agg #[.int .i64 v.k, .int .i64 v.n, .string v.s, .slice al l1 cl, .slice af l2 cf], .int .i64 z, .nilIface]) ∧ Below w.heap.size w w' ∧
      Hid (RepN 9 w' v [.int .i64 v.k, .int .i64 v.n, .string v.s, .slice al l1 cl, .slice af l2 cf]) := by
  have q := pValue m x 0 w hx hG
  rw [h] at q
  refine q.mono ?_
  rintro e w' ⟨k, n, t, a1, a2, l1, c1, l2, c2, rfl, hb, HR⟩
  obtain ⟨al, af, cl, cf, he, _⟩ := HR.out
  have he' := he
  simp only [List.cons.injEq, Value.int.injEq, Value.string.injEq, true_and] at he'
  obtain ⟨rfl, rfl, rfl, _⟩ := he'
  exact ⟨a1, a2, l1, c1, l2, c2, rfl, hb, HR⟩
theorem valueBad (m : Int) (x : ByteArray) (w : World) (hG : Gr m w) (hx : x.size ≤ maxLen) (h : (pV x 0).2.1 ≠ 0) :
    Calls Tryz.prog 7 #[.string x, .int .i64 0] w fun e w' => ∃ (k n : Int) (t : ByteArray) (al af : Option Addr) (l1 cl l2 cf z : Nat) (e1 : Int), e = .returned (.tuple #[.agg #[.int .i64 k, .int .i64 n, .string t, .slice al l1 cl, .slice af l2 cf], .int .i64 z, .iface 44 (.int .i64 e1)]) ∧ Below w.heap.size w w' := by
  refine (pValue m x 0 w hx hG).mono ?_
  rintro e w' ⟨k, n, t, a1, a2, l1, c1, l2, c2, rfl, hb, _⟩
  exact ⟨k, n, t, a1, a2, l1, c1, l2, c2, _, _, by rw [errN_pos h]; rfl, hb⟩
theorem valikeSelf {d : Nat} (x : V) (cs ds : List Value) (w : World) (h1 : RepN d w x cs) (h2 : RepN d w x ds) (hc : x.cnt ≤ 1048576) :
    Calls Tryz.prog 21 #[.agg cs.toArray, .agg ds.toArray] w fun e w' => e = .returned (.bool true) ∧ Below w.heap.size w w' := by
  refine (vAlike_says x x cs ds h1 h2 hc).mono ?_
  rintro e w' ⟨⟨rfl, _⟩ | ⟨rfl, hn⟩, hb⟩
  · exact ⟨rfl, hb⟩
  · exact absurd rfl hn
theorem addS {a b c : ByteArray} (ha : a.size ≤ 1000000) (hb : b.size ≤ 1000000) (hc : c.data.toList = a.data.toList ++ b.data.toList) (w : World) : (Op.stringOp .add a b).run Tryz.prog w = .ok (.string c) w := by
  have q := add_big (x := a.data.toList) (y := b.data.toList) (z := c.data.toList) (by simpa using ha) (by simpa using hb) hc w
  simpa using q
end Go.Proofs.YtfkjoppehbmomaaGreatDoor

/-
  The law of blanks.
-/
namespace Go.Proofs.YtfkjoppehbmomaaGreatDoor
open Go.RowKit
set_option maxRecDepth 100000

set_option maxHeartbeats 4000000 in
theorem topBlank_any (m : Int) (s note behind : ByteArray) (w : World) (hG : Gr m w) (hs : s.size ≤ maxLen) (_hn : note.size ≤ maxLen) (_hh : behind.size ≤ maxLen) :
    Calls Tryz.prog 5 #[.string s, .string note, .string behind] w fun e w' => e = .returned (.bool true) ∧ Below w.heap.size w w' := by
  have hbk := valueOk m bkS _ _ w hG (by decide) bk_pv
  unfold bkS V0 at hbk
  simp only at hbk
  by_cases hl1 : (1500 : Int) < s.size
  · go_enter Tryz.func5, Tryz.ntmps5
    go_wp2_with (go_at_call 7; go_must (refine hbk.mono ?_); rintro e w1 ⟨a1, b1, l1, c1, m1, d1, rfl, hb1, H1⟩)
    go_ret
    exact ⟨rfl, chn hb1 (below_box _ _)⟩
  by_cases hl2 : (100 : Int) < note.size
  · go_enter Tryz.func5, Tryz.ntmps5
    go_wp2_with (go_at_call 7; go_must (refine hbk.mono ?_); rintro e w1 ⟨a1, b1, l1, c1, m1, d1, rfl, hb1, H1⟩)
    go_ret
    exact ⟨rfl, chn hb1 (below_box _ _)⟩
  by_cases hl3 : (200 : Int) < behind.size
  · go_enter Tryz.func5, Tryz.ntmps5
    go_wp2_with (go_at_call 7; go_must (refine hbk.mono ?_); rintro e w1 ⟨a1, b1, l1, c1, m1, d1, rfl, hb1, H1⟩)
    go_ret
    exact ⟨rfl, chn hb1 (below_box _ _)⟩
  go_enter Tryz.func5, Tryz.ntmps5
  go_wp2_with (go_at_call 7; go_must (refine hbk.mono ?_); rintro e w1 ⟨a1, b1, l1, c1, m1, d1, rfl, hb1, H1⟩)
  have hB := chn hb1 (below_box w1 (.cells #[.int .i64 2, .int .i64 7000, .string eB, .slice a1 l1 c1, .slice b1 m1 d1] 26))
  clear hb1 H1 hbk
  go_loopw [10] (fun iv wr => ∃ i : Nat, iv = .int .i64 i ∧ i ≤ note.size ∧ (∀ j (hj : j < note.size), j < i → note[j] ≠ 10 ∧ note[j] ≠ 13) ∧ Below w.heap.size w wr) (fun iv _ => note.size - (intOf iv).toNat)
  case atStart => exact ⟨0, rfl, by omega, fun j _ h => absurd h (by omega), hB⟩
  case round =>
    obtain ⟨i, rfl, hi, hq, hb⟩ := hrel
    by_cases hlt : i < note.size
    · have hlt' : (i : Int) < note.size := by omega
      have hi0 : (0 : Int) ≤ (i : Int) := by omega
      have hc := note[i].toNat_lt
      go_wp2
      all_goals first
        | (go_ret; exact ⟨rfl, hb⟩)
        | (rename_i g
           obtain ⟨g1, g2⟩ := g
           have g1' : ¬ (note[i].toNat : Int) = 10 := by simpa using g1
           have g2' : ¬ (note[i].toNat : Int) = 13 := by simpa using g2
           refine ⟨⟨i + 1, by go_num, by omega, fun j hj hji => ?_, hb⟩, by simp [intOf]; omega⟩
           by_cases hjj : j = i
           · subst hjj
             exact ⟨fun q => g1' (by rw [q]; rfl), fun q => g2' (by rw [q]; rfl)⟩
           · exact hq j hj (by omega))
    · have hlt' : ¬ (i : Int) < note.size := by omega
      have hnote : ∀ c ∈ note.data.toList, c ≠ 10 ∧ c ≠ 13 := fun c hc => by
        obtain ⟨j, hj, rfl⟩ := List.getElem_of_mem hc
        have hj' : j < note.size := by simpa using hj
        have q := hq j hj' (by omega)
        rw [Array.getElem_toList]
        exact q
      have HN := hid hnote
      clear hq hnote
      by_cases he : (pV s 0).2.1 ≠ 0
      · have hv := valueBad m s wr (hG.below hb) hs he
        go_wp2_with (go_at_call 7; go_must (refine hv.mono ?_); rintro e w2 ⟨k2, n2, t2, a2, b2, l2, c2, m2, d2, z, e1, rfl, hb2⟩)
        go_ret
        exact ⟨rfl, chn (chn hb hb2) (below_box _ _)⟩
      obtain ⟨v, z, hp⟩ : ∃ v z, pV s 0 = (v, 0, z) := ⟨(pV s 0).1, (pV s 0).2.2, Prod.ext rfl (Prod.ext (by simpa using he) rfl)⟩
      clear he
      obtain ⟨A, hA⟩ : ∃ A : ByteArray, A.data.toList = 32 :: 37 :: note.data.toList := ⟨⟨(32 :: 37 :: note.data.toList).toArray⟩, by simp⟩
      obtain ⟨B, hBl⟩ : ∃ B : ByteArray, B.data.toList = 32 :: 37 :: (note.data.toList ++ [10]) := ⟨⟨(32 :: 37 :: (note.data.toList ++ [10])).toArray⟩, by simp⟩
      obtain ⟨X, hX⟩ : ∃ X : ByteArray, X.data.toList = 32 :: 37 :: (note.data.toList ++ 10 :: s.data.toList) := ⟨⟨(32 :: 37 :: (note.data.toList ++ 10 :: s.data.toList)).toArray⟩, by simp⟩
      have sA : A.size = note.size + 2 := by have := congrArg List.length hA; simpa using this
      have sB : B.size = note.size + 3 := by have := congrArg List.length hBl; simpa using this
      have sX : X.size = note.size + s.size + 3 := by have := congrArg List.length hX; simp at this; omega
      have hzs : z ≤ s.size := by
        obtain ⟨_, h2, _⟩ := pV_ok hp
        have := (rdV_fits s 8 0 (Nat.zero_le _) (by rw [h2])).2
        rw [h2] at this; exact this
      have hcnt : v.cnt ≤ 1048576 := by
        have q := (pV_ok hp).2.2
        by_cases h : 300 < v.cnt ∨ 8 < v.dep
        · rw [fault_many h] at q; exact absurd q (by decide)
        · omega
      obtain ⟨T0, hT0e, hT0⟩ : ∃ T0 : ByteArray, s.extract 0 z = T0 ∧ T0.data.toList = s.data.toList.take z := ⟨_, rfl, by simp⟩
      obtain ⟨T1, hT1⟩ : ∃ T1 : ByteArray, T1.data.toList = s.data.toList.take z ++ [32] := ⟨⟨(s.data.toList.take z ++ [32]).toArray⟩, by simp⟩
      obtain ⟨T, hT⟩ : ∃ T : ByteArray, T.data.toList = s.data.toList.take z ++ 32 :: behind.data.toList := ⟨⟨(s.data.toList.take z ++ 32 :: behind.data.toList).toArray⟩, by simp⟩
      have sT0 : T0.size = z := by have := congrArg List.length hT0; simp at this; omega
      have sT1 : T1.size = z + 1 := by have := congrArg List.length hT1; simp at this; omega
      have sT : T.size = z + 1 + behind.size := by have := congrArg List.length hT; simp at this; omega
      have E1 := addS (a := ⟨#[32, 37]⟩) (b := note) (c := A) (by decide) (by omega) (by simpa using hA)
      have E2 := addS (a := A) (b := ⟨#[10]⟩) (c := B) (by omega) (by decide) (by rw [hA, hBl]; simp)
      have E3 := addS (a := B) (b := s) (c := X) (by omega) (by omega) (by rw [hX, hBl]; simp)
      have E4 := addS (a := T0) (b := ⟨#[32]⟩) (c := T1) (by omega) (by decide) (by rw [hT0, hT1])
      have E5 := addS (a := T1) (b := behind) (c := T) (by omega) (by omega) (by rw [hT, hT1]; simp)
      obtain ⟨z2, hz2⟩ : ∃ z2 : Nat, z2 = note.size + 3 + z := ⟨_, rfl⟩
      have hpX : pV X 0 = (v, 0, z2) := by rw [hz2]; exact pV_ahead hp hX HN.out (by omega)
      have hz2' : (z2 : Int) = z + B.size := by omega
      have hv := valueOk m s v z wr (hG.below hb) hs hp
      go_wp2_with (go_at_call 7; fail)
      go_at_call 7
      refine hv.mono ?_
      rintro e w2 ⟨a2, b2, l2, c2, m2, d2, rfl, hb2, H2⟩
      have hb2' := chn (chn hb hb2) (below_box w2 (.cells #[.int .i64 v.k, .int .i64 v.n, .string v.s, .slice a2 l2 c2, .slice b2 m2 d2] 26))
      have A2 := At.new w2 #[.int .i64 v.k, .int .i64 v.n, .string v.s, .slice a2 l2 c2, .slice b2 m2 d2] 26 rfl
      have H2' := hid (H2.out.later (below_box w2 (.cells #[.int .i64 v.k, .int .i64 v.n, .string v.s, .slice a2 l2 c2, .slice b2 m2 d2] 26)))
      clear H2 hv
      have hv := valueOk m X v z2 _ (hG.below hb2') (Nat.le_trans (Nat.le_of_eq sX) (by unfold maxLen; omega)) hpX
      go_wp2_with (go_at_call 7; fail)
      go_at_call 7
      refine hv.mono ?_
      rintro e w3 ⟨a3, b3, l3, c3, m3, d3, rfl, hb3, H3⟩
      have hb3' := chn (chn hb2' hb3) (below_box w3 (.cells #[.int .i64 v.k, .int .i64 v.n, .string v.s, .slice a3 l3 c3, .slice b3 m3 d3] 26))
      have A3 := (At.later A2 hb3).alloc (.cells #[.int .i64 v.k, .int .i64 v.n, .string v.s, .slice a3 l3 c3, .slice b3 m3 d3] 26)
      have A4 := At.new w3 #[.int .i64 v.k, .int .i64 v.n, .string v.s, .slice a3 l3 c3, .slice b3 m3 d3] 26 rfl
      have Z3 := At.lt (At.later A2 hb3)
      have H4 := hid (And.intro ((H2'.out.later hb3).later (below_box w3 (.cells #[.int .i64 v.k, .int .i64 v.n, .string v.s, .slice a3 l3 c3, .slice b3 m3 d3] 26))) (H3.out.later (below_box w3 (.cells #[.int .i64 v.k, .int .i64 v.n, .string v.s, .slice a3 l3 c3, .slice b3 m3 d3] 26))))
      clear hv H3 H2' A2 hb2
      obtain ⟨⟨p0, p1, p2, p3, p4⟩, _⟩ := five_cells A3
      have hal := valikeSelf v [.int .i64 v.k, .int .i64 v.n, .string v.s, .slice a2 l2 c2, .slice b2 m2 d2] [.int .i64 v.k, .int .i64 v.n, .string v.s, .slice a3 l3 c3, .slice b3 m3 d3] _ H4.out.1 H4.out.2 hcnt
      go_wp2_with (go_at_call 21; fail)
      go_at_call 21
      refine hal.mono ?_
      rintro e w4 ⟨rfl, hb4⟩
      have hb4' := chn hb3' hb4
      have A5 := At.later A3 hb4
      have H5 := hid (H4.out.1.later hb4)
      clear hal H4 A3 A4 Z3 p0 p1 p2 p3 p4
      obtain ⟨⟨p0, p1, p2, p3, p4⟩, _⟩ := five_cells A5
      have hzs' : (z : Int) ≤ s.size := by omega
      have hz0 : (0 : Int) ≤ (z : Int) := by omega
      by_cases hk : v.k = 2
      · have hk' : (v.k == 2) = true := by simpa using hk
        go_wp2
        go_ret
        exact ⟨rfl, hb4'⟩
      · have hk' : (v.k == 2) = false := by simpa using hk
        have hpT : pV T 0 = (v, 0, z) := pV_behind hp hk hT (by omega)
        have hv := valueOk m T v z _ (hG.below hb4') (Nat.le_trans (Nat.le_of_eq sT) (by unfold maxLen; omega)) hpT
        go_wp2_with (go_at_call 7; fail)
        go_at_call 7
        refine hv.mono ?_
        rintro e w5 ⟨a5, b5, l5, c5, m5, d5, rfl, hb5, H6⟩
        have hb5' := chn (chn hb4' hb5) (below_box w5 (.cells #[.int .i64 v.k, .int .i64 v.n, .string v.s, .slice a5 l5 c5, .slice b5 m5 d5] 26))
        have A6 := (At.later A5 hb5).alloc (.cells #[.int .i64 v.k, .int .i64 v.n, .string v.s, .slice a5 l5 c5, .slice b5 m5 d5] 26)
        have A7 := At.new w5 #[.int .i64 v.k, .int .i64 v.n, .string v.s, .slice a5 l5 c5, .slice b5 m5 d5] 26 rfl
        have Z5 := At.lt (At.later A5 hb5)
        have H7 := hid (And.intro ((H5.out.later hb5).later (below_box w5 (.cells #[.int .i64 v.k, .int .i64 v.n, .string v.s, .slice a5 l5 c5, .slice b5 m5 d5] 26))) (H6.out.later (below_box w5 (.cells #[.int .i64 v.k, .int .i64 v.n, .string v.s, .slice a5 l5 c5, .slice b5 m5 d5] 26))))
        clear hv H6 H5 A5 p0 p1 p2 p3 p4
        obtain ⟨⟨p0, p1, p2, p3, p4⟩, _⟩ := five_cells A6
        have hal := valikeSelf v [.int .i64 v.k, .int .i64 v.n, .string v.s, .slice a2 l2 c2, .slice b2 m2 d2] [.int .i64 v.k, .int .i64 v.n, .string v.s, .slice a5 l5 c5, .slice b5 m5 d5] _ H7.out.1 H7.out.2 hcnt
        go_wp2_with (go_at_call 21; fail)
        go_at_call 21
        refine hal.mono ?_
        rintro e w6 ⟨rfl, hb6⟩
        have hb6' := chn hb5' hb6
        go_wp2
        go_ret
        exact ⟨rfl, hb6'⟩
end Go.Proofs.YtfkjoppehbmomaaGreatDoor
