/-
  Joined: Yr, Ve1, Ve2.
-/
import Derived.Test.YtefbfgcbbpmhlabGreatDoorYq
import Derived.Test.YtefbfgcbbpmhlabGreatDoorVd4
import Derived.Shelf.Spec.SlicesInsert
import Derived.Shelf.Spec.SlicesInsertGrow
import Derived.Deep.RegionLaw
import Derived.Deep.DrawnRows
import Derived.Maps.AppendAt

/-
  The program's reader: a name looked for among fields.
-/
namespace Go.Proofs.YtefbfgcbbpmhlabGreatDoor
open Go.RowKit
set_option maxRecDepth 100000

theorem cmpB_neg {x y : ByteArray} : cmpB x y < 0 ↔ Lt x y := by
  unfold cmpB Lt
  cases Op.bytesLess x.toList y.toList <;> cases Op.bytesLess y.toList x.toList <;> simp
theorem cmpB_zero {x y : ByteArray} : cmpB x y = 0 ↔ x = y := by
  constructor
  · intro h
    rcases lt_tri x y with q | q | q
    · have := cmpB_neg.2 q; omega
    · exact q
    · unfold Lt at q
      unfold cmpB at h
      rw [q] at h
      cases hh : Op.bytesLess x.toList y.toList
      · rw [hh] at h; simp at h
      · rw [hh] at h; simp at h
  · rintro rfl
    unfold cmpB; rw [bl_irrefl]; rfl
theorem rises_at {l : List (ByteArray × V)} (hp : l.Pairwise fun p q => Lt p.1 q.1) {i j : Nat} {p q : ByteArray × V} (hij : i < j) (hi : l[i]? = some p) (hj : l[j]? = some q) : Lt p.1 q.1 := by
  obtain ⟨h1, rfl⟩ := List.getElem?_eq_some_iff.1 hi
  obtain ⟨h2, rfl⟩ := List.getElem?_eq_some_iff.1 hj
  exact List.pairwise_iff_getElem.1 hp i j h1 h2 hij
/-- Where a name belongs among names that rise, and whether it is there. -/
structure FoundAt (name : ByteArray) (l : List (ByteArray × V)) (t : Nat) (b : Bool) : Prop where
  le : t ≤ l.length
  low : ∀ (i : Nat) (q : ByteArray × V), i < t → l[i]? = some q → Lt q.1 name
  high : ∀ (i : Nat) (q : ByteArray × V), t ≤ i → l[i]? = some q → ¬ Lt q.1 name
  is : b = true ↔ ∃ q, l[t]? = some q ∧ q.1 = name
end Go.Proofs.YtefbfgcbbpmhlabGreatDoor

/-
  slices.Insert of one field into a row that a call owns.
-/
namespace Go.Proofs.YtefbfgcbbpmhlabGreatDoor
open Go.RowKit
set_option maxRecDepth 100000

theorem run_copyN {P : Program} (w : World) (dT sT ty elem : TypeId) (size : Nat) (g o dLen dCap : Nat) (a : Addr) (sLen sCap k : Nat) (cur : Array Value) (t : TypeId) (cs : List Value)
    (hu : P.underlying dT = some (.slice elem)) (hs : (P.info? elem).map (·.size) = some size) (hg : w.heap[g]? = some (.cells cur t (0, 0))) (hk : Nat.min sLen dLen = k) (hn : cs.length = k * size)
    (hsrc : ∀ j v, cs[j]? = some v → w.cell? (a.add j) = some v) (hfit : o + cs.length ≤ cur.size) (h1 : ∀ v ∈ cs, v.oneCell' = true) :
    (Builtin.copy_ #[dT, sT] ty #[.slice (some ⟨g, o, none⟩) dLen dCap, .slice (some a) sLen sCap]).run P w =
      .ok (goInt k) (w.setRow g (cur.toList.take o ++ cs ++ cur.toList.drop (o + cs.length)).toArray) := by
  have hl := run_firstCells_some (P := P) w size k a sLen sCap cs hn hsrc
  have hst := run_storeCells_at P g o t cs 0 cur w hg (by simpa using hfit) h1
  cases hq : P.info? elem with
  | none => simp [hq] at hs
  | some i =>
    have hi : i.size = size := by simpa [hq] using hs
    simp [Builtin.copy_, run_underlying hu, Builtin.lenOf, sizeOf, typeInfo, hq, hi, hk, hl, hst]
theorem ins_end {xs ys : List Value} {n : Nat} (h : xs.length = n * 6) : xs.take (n * 6) ++ ys ++ xs.drop (n * 6) = xs ++ ys := by
  rw [List.take_of_length_le (by omega), List.drop_eq_nil_of_le (by omega), List.append_nil]
set_option maxHeartbeats 1000000 in
theorem insertAt_end {w : World} {base : Nat} {v : Value} {n : Nat} {xs : List Value} (hown : w.ownsRow base 91 6 v n xs) (hbase : base ≤ w.heap.size) (hn : n ≤ 1048576) (vb : Nat) (y0 y1 y2 y3 y4 y5 : Value) (hvs : At w vb 91 #[y0, y1, y2, y3, y4, y5])
    (h1 : ∀ u ∈ [y0, y1, y2, y3, y4, y5], u.oneCell' = true) :
    Calls Tryz.prog 95 #[v, .int .i64 n, .slice (some ⟨vb, 0, none⟩) 1 1] w fun e w' => ∃ v', e = .returned v' ∧ w'.ownsRow base 91 6 v' (n + 1) (xs.take (n * 6) ++ [y0, y1, y2, y3, y4, y5] ++ xs.drop (n * 6)) ∧ w.grownBy w' v.ownBlock ∧ (v'.ownBlock = v.ownBlock ∨ v'.ownBlock = some w.heap.size) := by
  obtain ⟨iF, hiF, hf0, hf1, hf2⟩ := info_parts infoF
  rw [ins_end hown.1]
  have HO := hid hown
  have HV := hid hvs
  have H1 := hid h1
  clear hvs h1
  obtain ⟨_, ⟨rfl, rfl⟩ | ⟨g, cap, cur, rfl, _, _, hcap, hcm, _⟩⟩ := hown
  · go_enter Tryz.func95, Tryz.ntmps95
    go_wp2_with (at_builtin; refine wpList_append_own_at _ rfl (.tmp 23) (.tmp 24) 24 rfl base 91 iF _ 6 96 Tryz.underlying24 hiF hf0 hf1 hf2 rfl (by decide) _ _ _ rfl HO.out ⟨vb, 0, none⟩ 1 1 [y0, y1, y2, y3, y4, y5] rfl rfl (World.news_of_block HV.out) H1.out (by unfold maxLen; omega) (by omega) hbase ?_)
    intro v2 w2 hown2 hgrow2 _ hat2
    go_wp2
    go_ret
    exact ⟨_, rfl, by simpa using hown2, hgrow2, hat2⟩
  · unfold maxLen at hcm
    go_enter Tryz.func95, Tryz.ntmps95
    go_wp2_with (at_builtin; refine wpList_append_own_at _ rfl (.tmp 23) (.tmp 24) 24 rfl base 91 iF _ 6 96 Tryz.underlying24 hiF hf0 hf1 hf2 rfl (by decide) _ _ _ rfl HO.out ⟨vb, 0, none⟩ 1 1 [y0, y1, y2, y3, y4, y5] rfl rfl (World.news_of_block HV.out) H1.out (by unfold maxLen; omega) (by omega) hbase ?_)
    all_goals
      intro v2 w2 hown2 hgrow2 _ hat2
      go_wp2
      go_ret
      exact ⟨_, rfl, hown2, hgrow2, hat2⟩
end Go.Proofs.YtefbfgcbbpmhlabGreatDoor

/-
  slices.Insert of one field into a row that a call owns: where there is room.
-/
namespace Go.Proofs.YtefbfgcbbpmhlabGreatDoor
open Go.RowKit
set_option maxRecDepth 100000
attribute [local go_sem ↓] Go.wp_at_zero Go.wp_at_succ

/-- The row, one shifted by six from i on, the new ones laid between. -/
theorem ins_room {cur xs ys : List Value} {n i : Nat} (hx : xs.length = n * 6) (ht : cur.take (n * 6) = xs) (hi : i < n) (hy : ys.length = 6) (hc : (n + 1) * 6 ≤ cur.length) :
    let cur1 := cur.take (i * 6 + 6) ++ xs.drop (i * 6) ++ cur.drop (i * 6 + 6 + (xs.drop (i * 6)).length)
    let cur2 := cur1.take (i * 6) ++ ys ++ cur1.drop (i * 6 + ys.length)
    cur1.length = cur.length ∧ cur2.length = cur.length ∧ cur2.take ((n + 1) * 6) = xs.take (i * 6) ++ ys ++ xs.drop (i * 6) := by
  intro cur1 cur2
  have hd : (xs.drop (i * 6)).length = n * 6 - i * 6 := by rw [List.length_drop, hx]
  have l1 : cur1.length = cur.length := by
    simp only [cur1, List.length_append, List.length_take, List.length_drop, hx]; omega
  have l2 : cur2.length = cur.length := by
    simp only [cur2, List.length_append, List.length_take, List.length_drop, l1, hy]; omega
  refine ⟨l1, l2, ?_⟩
  have e0 : cur.take (i * 6) = xs.take (i * 6) := by rw [← ht, List.take_take, Nat.min_eq_left (by omega)]
  have e1 : cur1.take (i * 6) = xs.take (i * 6) := by
    simp only [cur1, List.append_assoc]
    rw [List.take_append_of_le_length (by rw [List.length_take]; omega), List.take_take, Nat.min_eq_left (by omega), e0]
  have e2 : cur1.drop (i * 6 + ys.length) = xs.drop (i * 6) ++ cur.drop (i * 6 + 6 + (xs.drop (i * 6)).length) := by
    simp only [cur1, List.append_assoc, hy]
    rw [List.drop_append_of_le_length (by rw [List.length_take]; omega), List.drop_eq_nil_of_le (by rw [List.length_take]; omega), List.nil_append]
  show (cur1.take (i * 6) ++ ys ++ cur1.drop (i * 6 + ys.length)).take ((n + 1) * 6) = _
  rw [e1, e2, ← List.append_assoc]
  have hl : (xs.take (i * 6) ++ ys ++ xs.drop (i * 6)).length = (n + 1) * 6 := by
    simp only [List.length_append, List.length_take, List.length_drop, hx, hy]; omega
  rw [List.take_append_of_le_length (by omega), List.take_of_length_le (by omega)]
set_option maxHeartbeats 1000000 in
theorem insertAt_room {w : World} {base g cap n i : Nat} {cur : Array Value} {xs : List Value} (hxl : xs.length = n * 6) (hbg : base ≤ g) (hg : w.heap[g]? = some (.cells cur 91 (0, 0))) (hcm : cap ≤ maxLen) (hcs : cur.size = cap * 6) (ht : cur.toList.take (n * 6) = xs)
    (hn : n ≤ 1048576) (hi : i < n) (hroom : n + 1 ≤ cap) (vb : Nat) (y0 y1 y2 y3 y4 y5 : Value) (hvs : At w vb 91 #[y0, y1, y2, y3, y4, y5]) (hne : g ≠ vb) (h1 : ∀ u ∈ [y0, y1, y2, y3, y4, y5], u.oneCell' = true) (h1x : ∀ u ∈ xs, u.oneCell' = true) :
    Calls Tryz.prog 95 #[.slice (some ⟨g, 0, none⟩) n cap, .int .i64 i, .slice (some ⟨vb, 0, none⟩) 1 1] w fun e w' => ∃ v', e = .returned v' ∧ w'.ownsRow base 91 6 v' (n + 1) (xs.take (i * 6) ++ [y0, y1, y2, y3, y4, y5] ++ xs.drop (i * 6)) ∧ w.grownBy w' (some g) ∧ (v'.ownBlock = some g ∨ v'.ownBlock = some w.heap.size) := by
  have HCM := hid hcm
  unfold maxLen at hcm
  have hz2 : ¬ ((i : Int) = (n : Int)) := by omega
  have hov : ∀ lb cb, (callFunc 145 #[.slice (some ⟨vb, 0, none⟩) 1 1, .slice (some ⟨g, (i + 1) * 6, none⟩) lb cb]).run Tryz.prog w = .ok (.value (.bool false)) w := fun lb cb => by
    rw [run_callFunc_extern Tryz.func145 (by kernel_rfl) (by kernel_rfl) (by kernel_rfl) (e := Extern.SlicesOverlaps.overlaps #[24, 24] #[4]) (by kernel_rfl),
      Lib.run_overlaps_apart w 24 4 91 Tryz.underlying24 6 Tryz.sizeOf91 ⟨vb, 0, none⟩ ⟨g, (i + 1) * 6, none⟩ 1 1 lb cb (Ne.symm hne) 91 91 6 cur.size (by unfold World.shape?; rw [hvs]; rfl) (by unfold World.shape?; rw [hg]) (by omega) (hvs.free 0) (hvs.free 6)]
    rfl
  have hsz : (Tryz.prog.info? 91).map (·.size) = some 6 := by
    obtain ⟨iF, hiF, _, hf1, _⟩ := info_parts infoF
    rw [hiF]; simp [hf1]
  have hdl : (xs.drop (i * 6)).length = (n - i) * 6 := by rw [List.length_drop, hxl]; omega
  have hR := ins_room (cur := cur.toList) (ys := [y0, y1, y2, y3, y4, y5]) hxl ht hi rfl (by simp; omega)
  simp only at hR
  obtain ⟨C1, hC1⟩ : ∃ C1, C1 = cur.toList.take (i * 6 + 6) ++ xs.drop (i * 6) ++ cur.toList.drop (i * 6 + 6 + (xs.drop (i * 6)).length) := ⟨_, rfl⟩
  rw [← hC1] at hR
  obtain ⟨C2, hC2⟩ : ∃ C2, C2 = C1.take (i * 6) ++ [y0, y1, y2, y3, y4, y5] ++ C1.drop (i * 6 + [y0, y1, y2, y3, y4, y5].length) := ⟨_, rfl⟩
  rw [← hC2] at hR
  obtain ⟨hl1, hl2, hR⟩ := hR
  have hcell : ∀ j v, xs[j]? = some v → w.cell? ⟨g, j, none⟩ = some v := fun j v hj => by
    rw [cell_of_row w g j cur _ _ hg]
    rw [← ht, List.getElem?_take] at hj
    split at hj
    · simpa using hj
    · cases hj
  have hcp1 : ∀ ty dc sc, (Builtin.copy_ #[24, 24] ty #[.slice (some ⟨g, (i + 1) * 6, none⟩) (n - i) dc, .slice (some ⟨g, i * 6, none⟩) (n + 1 - i) sc]).run Tryz.prog w.drew = .ok (goInt ((n - i : Nat) : Int)) (w.drew.setRow g C1.toArray) := fun ty dc sc => by
    rw [hC1, show (i + 1) * 6 = i * 6 + 6 by omega]
    exact run_copyN w.drew _ _ ty 91 6 g (i * 6 + 6) (n - i) dc ⟨g, i * 6, none⟩ (n + 1 - i) sc (n - i) cur 91 (xs.drop (i * 6)) Tryz.underlying24 hsz hg (by simp only [Nat.min_def]; split <;> omega) hdl
      (fun j v hj => by rw [Lib.add_plain]; exact hcell (i * 6 + j) v (by rwa [List.getElem?_drop] at hj)) (by rw [hdl, hcs]; omega) (fun v hv => h1x v (List.mem_of_mem_drop hv))
  have hg1 : (w.drew.setRow g C1.toArray).heap[g]? = some (.cells C1.toArray 91 (0, 0)) := setRow_heap w.drew g cur _ _ _ hg
  have hv1 : (w.drew.setRow g C1.toArray).heap[vb]? = some (.cells #[y0, y1, y2, y3, y4, y5] 91 (0, 0)) := (setRow_other w.drew g vb _ (Ne.symm hne)).trans hvs
  have hcp2 : ∀ ty dc, (Builtin.copy_ #[24, 24] ty #[.slice (some ⟨g, i * 6, none⟩) (n + 1 - i) dc, .slice (some ⟨vb, 0, none⟩) 1 1]).run Tryz.prog (w.drew.setRow g C1.toArray) = .ok (goInt 1) ((w.drew.setRow g C1.toArray).setRow g C2.toArray) := fun ty dc => by
    rw [hC2]
    exact run_copyN (w.drew.setRow g C1.toArray) _ _ ty 91 6 g (i * 6) (n + 1 - i) dc ⟨vb, 0, none⟩ 1 1 1 C1.toArray 91 [y0, y1, y2, y3, y4, y5] Tryz.underlying24 hsz hg1 (by simp only [Nat.min_def]; split <;> omega) rfl
      (World.news_of_block hv1) (by simp [hl1]; omega) h1
  have HC1 := hid (And.intro hC1 hC2)
  have HH := hid (And.intro hl1 (And.intro hl2 hR))
  have HFIN := hid (show ((w.drew.setRow g C1.toArray).setRow g C2.toArray).ownsRow base 91 6 (.slice (some ⟨g, 0, none⟩) (n + 1) cap) (n + 1) (xs.take (i * 6) ++ [y0, y1, y2, y3, y4, y5] ++ xs.drop (i * 6)) ∧ w.grownBy ((w.drew.setRow g C1.toArray).setRow g C2.toArray) (some g) from
    ⟨⟨by simp only [List.length_append, List.length_take, List.length_drop, hxl]; simp; omega, .inr ⟨g, cap, C2.toArray, rfl, hbg, setRow_heap _ g _ _ _ _ hg1, hroom, HCM.out, by simp [hl2, hcs], by simpa using hR⟩⟩, ⟨rfl, rfl, rfl, by simp [World.setRow], fun k _ hk => (setRow_other _ g k _ (fun e => hk (by rw [e]))).trans (setRow_other _ g k _ (fun e => hk (by rw [e])))⟩⟩)
  clear hC1 hC2 hl1 hl2 hR hcell hdl hsz hg1 hv1 ht hcs
  have hci : ¬ (cap = i + 1) := by omega
  have hw1 : IntKind.i64.wrap ((i : Int) + 1) = (i : Int) + 1 := by rw [IntKind.wrap_i64]; omega
  have htn : ((i : Int) + 1).toNat = i + 1 := by omega
  have hb1 : (0 : Int) ≤ (i : Int) + 1 := by omega
  have hb2 : (i : Int) + 1 ≤ (n : Int) + 1 := by omega
  have hb3 : (i : Int) ≤ (n : Int) + 1 := by omega
  have hcj : ¬ (cap = i) := by omega
  go_enter Tryz.func95, Tryz.ntmps95
  go_wp2_with (simp only [hov])
  go_region_law ((refine step_copy_runI rfl (.tmp 73) (.tmp 76) 24 24 rfl (.slice (some ⟨g, (i + 1) * 6, none⟩) (n - i) (cap - (i + 1))) (.slice (some ⟨g, i * 6, none⟩) (n + 1 - i) (cap - i)) (by simp [Act.eval, Act.put]) (by simp [Act.eval, Act.put]) (hcp1 3 (cap - (i + 1)) (cap - i)) ?_))
  all_goals go_wp2_with (at_builtin; refine wpList_copy_runI _ rfl (.tmp 80) (.tmp 81) 24 24 rfl (.slice (some ⟨g, i * 6, none⟩) (n + 1 - i) (cap - i)) (.slice (some ⟨vb, 0, none⟩) 1 1) rfl rfl (hcp2 _ _) ?_)
  all_goals go_ret
  all_goals exact ⟨_, rfl, HFIN.out.1, HFIN.out.2, .inl rfl⟩
end Go.Proofs.YtefbfgcbbpmhlabGreatDoor
