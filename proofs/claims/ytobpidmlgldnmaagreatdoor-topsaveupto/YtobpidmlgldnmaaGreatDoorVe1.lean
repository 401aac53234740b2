/-
  Joined: Yq, Yr, Ve1.
-/
import Derived.Test.YtobpidmlgldnmaaGreatDoorYp
import Derived.Test.YtobpidmlgldnmaaGreatDoorYm
import Derived.Shelf.Spec.SlicesInsert
import Derived.Shelf.Spec.SlicesInsertGrow
import Derived.Deep.RegionLaw
import Derived.Deep.DrawnRows
import Derived.Maps.AppendAt

/-
  The program's reader: names, compared.
-/
namespace Go.Proofs.YtobpidmlgldnmaaGreatDoor
open Go.RowKit
set_option maxRecDepth 100000

/-- How two names stand to each other. -/
def cmpB (x y : ByteArray) : Int := if Op.bytesLess x.toList y.toList then -1 else if Op.bytesLess y.toList x.toList then 1 else 0
theorem isNaN_no (x : ByteArray) (w : World) : Calls Tryz.prog 154 #[.string x] w fun e w' => e = .returned (.bool false) ∧ w' = w := by
  have h : (x.toList == x.toList) = true := by simp
  go_enter Tryz.func154, Tryz.ntmps154
  go_wp2
  go_ret
  simp
theorem compare_says (x y : ByteArray) (w : World) : Calls Tryz.prog 134 #[.string x, .string y] w fun e w' => e = .returned (.int .i64 (cmpB x y)) ∧ w' = w := by
  cases h1 : Op.bytesLess x.toList y.toList
  · cases h2 : Op.bytesLess y.toList x.toList
    · have he : (x.toList == y.toList) = true := by
        rcases bl_tri x.toList y.toList with h | h | h
        · rw [h1] at h; cases h
        · rw [h]; simp
        · rw [h2] at h; cases h
      have HC := hid (show cmpB x y = 0 by unfold cmpB; rw [h1, h2]; rfl)
      rw [HC.out]
      go_enter Tryz.func134, Tryz.ntmps134
      go_wp2_with (go_at_call 154; refine (isNaN_no _ _).mono ?_; rintro e w1 ⟨rfl, rfl⟩)
      go_ret
      exact ⟨rfl, rfl⟩
    · have he : (x.toList == y.toList) = false := by
        cases hh : (x.toList == y.toList)
        · rfl
        · rw [show x.toList = y.toList by simpa using hh, bl_irrefl] at h2; cases h2
      have HC := hid (show cmpB x y = 1 by unfold cmpB; rw [h1, h2]; rfl)
      rw [HC.out]
      go_enter Tryz.func134, Tryz.ntmps134
      go_wp2_with (go_at_call 154; refine (isNaN_no _ _).mono ?_; rintro e w1 ⟨rfl, rfl⟩)
      go_ret
      exact ⟨rfl, rfl⟩
  · have HC := hid (show cmpB x y = -1 by unfold cmpB; rw [h1]; rfl)
    rw [HC.out]
    go_enter Tryz.func134, Tryz.ntmps134
    go_wp2_with (go_at_call 154; refine (isNaN_no _ _).mono ?_; rintro e w1 ⟨rfl, rfl⟩)
    go_ret
    exact ⟨rfl, rfl⟩
/-- The names of two fields, compared. -/
theorem byName_says (x y : ByteArray) (u1 u2 u3 u4 u5 v1 v2 v3 v4 v5 : Value) (w : World) :
    Calls Tryz.prog 117 #[.agg #[.string x, u1, u2, u3, u4, u5], .agg #[.string y, v1, v2, v3, v4, v5]] w fun e w' => e = .returned (.int .i64 (cmpB x y)) ∧ Below w.heap.size w w' := by
  go_enter Tryz.func117, Tryz.ntmps117
  go_wp2_with (go_at_call 134; refine (compare_says _ _ _).mono ?_; rintro e w1 ⟨rfl, rfl⟩)
  go_ret
  first | exact ⟨rfl, Below.refl _ _⟩ | exact ⟨rfl, Joins.below_alloc2 _ _ _⟩
end Go.Proofs.YtobpidmlgldnmaaGreatDoor

/-
  The program's reader: a name looked for among fields.
-/
namespace Go.Proofs.YtobpidmlgldnmaaGreatDoor
open Go.RowKit
set_option maxRecDepth 100000

theorem cmpB_neg {x y : ByteArray} : cmpB x y < 0 ↔ Lt x y := by
  unfold cmpB Lt
  cases Op.bytesLess x.toList y.toList <;> cases Op.bytesLess y.toList x.toList <;> simp
theorem cmpB_zero {x y : ByteArray} : cmpB x y = 0 ↔ x = y := by
  constructor
  · intro h
    rcases lt_tri x y with q | q | q
    · have := cmpB_neg.2 q; omega
    · exact q
    · unfold Lt at q
      unfold cmpB at h
      rw [q] at h
      cases hh : Op.bytesLess x.toList y.toList
      · rw [hh] at h; simp at h
      · rw [hh] at h; simp at h
  · rintro rfl
    unfold cmpB; rw [bl_irrefl]; rfl
theorem rises_at {l : List (ByteArray × V)} (hp : l.Pairwise fun p q => Lt p.1 q.1) {i j : Nat} {p q : ByteArray × V} (hij : i < j) (hi : l[i]? = some p) (hj : l[j]? = some q) : Lt p.1 q.1 := by
  obtain ⟨h1, rfl⟩ := List.getElem?_eq_some_iff.1 hi
  obtain ⟨h2, rfl⟩ := List.getElem?_eq_some_iff.1 hj
  exact List.pairwise_iff_getElem.1 hp i j h1 h2 hij
/-- Where a name belongs among names that rise, and whether it is there. -/
structure FoundAt (name : ByteArray) (l : List (ByteArray × V)) (t : Nat) (b : Bool) : Prop where
  le : t ≤ l.length
  low : ∀ (i : Nat) (q : ByteArray × V), i < t → l[i]? = some q → Lt q.1 name
  high : ∀ (i : Nat) (q : ByteArray × V), t ≤ i → l[i]? = some q → ¬ Lt q.1 name
  is : b = true ↔ ∃ q, l[t]? = some q ∧ q.1 = name
end Go.Proofs.YtobpidmlgldnmaaGreatDoor

/-
  slices.Insert of one field into a row that a call owns.
-/
namespace Go.Proofs.YtobpidmlgldnmaaGreatDoor
open Go.RowKit
set_option maxRecDepth 100000

theorem run_copyN {P : Program} (w : World) (dT sT ty elem : TypeId) (size : Nat) (g o dLen dCap : Nat) (a : Addr) (sLen sCap k : Nat) (cur : Array Value) (t : TypeId) (cs : List Value)
    (hu : P.underlying dT = some (.slice elem)) (hs : (P.info? elem).map (·.size) = some size) (hg : w.heap[g]? = some (.cells cur t (0, 0))) (hk : Nat.min sLen dLen = k) (hn : cs.length = k * size)
    (hsrc : ∀ j v, cs[j]? = some v → w.cell? (a.add j) = some v) (hfit : o + cs.length ≤ cur.size) (h1 : ∀ v ∈ cs, v.oneCell' = true) :
    (Builtin.copy_ #[dT, sT] ty #[.slice (some ⟨g, o, none⟩) dLen dCap, .slice (some a) sLen sCap]).run P w =
      .ok (goInt k) (w.setRow g (cur.toList.take o ++ cs ++ cur.toList.drop (o + cs.length)).toArray) := by
  have hl := run_firstCells_some (P := P) w size k a sLen sCap cs hn hsrc
  have hst := run_storeCells_at P g o t cs 0 cur w hg (by simpa using hfit) h1
  cases hq : P.info? elem with
  | none => simp [hq] at hs
  | some i =>
    have hi : i.size = size := by simpa [hq] using hs
    simp [Builtin.copy_, run_underlying hu, Builtin.lenOf, sizeOf, typeInfo, hq, hi, hk, hl, hst]
theorem ins_end {xs ys : List Value} {n : Nat} (h : xs.length = n * 6) : xs.take (n * 6) ++ ys ++ xs.drop (n * 6) = xs ++ ys := by
  rw [List.take_of_length_le (by omega), List.drop_eq_nil_of_le (by omega), List.append_nil]
set_option maxHeartbeats 1000000 in
theorem insertAt_end {w : World} {base : Nat} {v : Value} {n : Nat} {xs : List Value} (hown : w.ownsRow base 111 6 v n xs) (hbase : base ≤ w.heap.size) (hn : n ≤ 1048576) (vb : Nat) (y0 y1 y2 y3 y4 y5 : Value) (hvs : At w vb 111 #[y0, y1, y2, y3, y4, y5])
    (h1 : ∀ u ∈ [y0, y1, y2, y3, y4, y5], u.oneCell' = true) :
    Calls Tryz.prog 118 #[v, .int .i64 n, .slice (some ⟨vb, 0, none⟩) 1 1] w fun e w' => ∃ v', e = .returned v' ∧ w'.ownsRow base 111 6 v' (n + 1) (xs.take (n * 6) ++ [y0, y1, y2, y3, y4, y5] ++ xs.drop (n * 6)) ∧ w.grownBy w' v.ownBlock ∧ (v'.ownBlock = v.ownBlock ∨ v'.ownBlock = some w.heap.size) := by
  obtain ⟨iF, hiF, hf0, hf1, hf2⟩ := info_parts infoF
  rw [ins_end hown.1]
  have HO := hid hown
  have HV := hid hvs
  have H1 := hid h1
  clear hvs h1
  obtain ⟨_, ⟨rfl, rfl⟩ | ⟨g, cap, cur, rfl, _, _, hcap, hcm, _⟩⟩ := hown
  · go_enter Tryz.func118, Tryz.ntmps118
    go_wp2_with (at_builtin; refine wpList_append_own_at _ rfl (.tmp 23) (.tmp 24) 36 rfl base 111 iF _ 6 96 Tryz.underlying36 hiF hf0 hf1 hf2 rfl (by decide) _ _ _ rfl HO.out ⟨vb, 0, none⟩ 1 1 [y0, y1, y2, y3, y4, y5] rfl rfl (World.news_of_block HV.out) H1.out (by unfold maxLen; omega) (by omega) hbase ?_)
    intro v2 w2 hown2 hgrow2 _ hat2
    go_wp2
    go_ret
    exact ⟨_, rfl, by simpa using hown2, hgrow2, hat2⟩
  · unfold maxLen at hcm
    go_enter Tryz.func118, Tryz.ntmps118
    go_wp2_with (at_builtin; refine wpList_append_own_at _ rfl (.tmp 23) (.tmp 24) 36 rfl base 111 iF _ 6 96 Tryz.underlying36 hiF hf0 hf1 hf2 rfl (by decide) _ _ _ rfl HO.out ⟨vb, 0, none⟩ 1 1 [y0, y1, y2, y3, y4, y5] rfl rfl (World.news_of_block HV.out) H1.out (by unfold maxLen; omega) (by omega) hbase ?_)
    all_goals
      intro v2 w2 hown2 hgrow2 _ hat2
      go_wp2
      go_ret
      exact ⟨_, rfl, hown2, hgrow2, hat2⟩
end Go.Proofs.YtobpidmlgldnmaaGreatDoor
