/-
  Joined: Ve1, Ve2, Ve3.
-/
import Derived.Test.YtflcibmjblioaaaGreatDoorVd5
import Derived.Shelf.Spec.SlicesInsert
import Derived.Shelf.Spec.SlicesInsertGrow
import Derived.Deep.RegionLaw
import Derived.Deep.DrawnRows
import Derived.Maps.AppendAt

/-
  slices.Insert of one field into a row that a call owns.
-/
namespace Go.Proofs.YtflcibmjblioaaaGreatDoor
open Go.RowKit
set_option maxRecDepth 100000

theorem run_copyN {P : Program} (w : World) (dT sT ty elem : TypeId) (size : Nat) (g o dLen dCap : Nat) (a : Addr) (sLen sCap k : Nat) (cur : Array Value) (t : TypeId) (cs : List Value)
    (hu : P.underlying dT = some (.slice elem)) (hs : (P.info? elem).map (·.size) = some size) (hg : w.heap[g]? = some (.cells cur t (0, 0))) (hk : Nat.min sLen dLen = k) (hn : cs.length = k * size)
    (hsrc : ∀ j v, cs[j]? = some v → w.cell? (a.add j) = some v) (hfit : o + cs.length ≤ cur.size) (h1 : ∀ v ∈ cs, v.oneCell' = true) :
    (Builtin.copy_ #[dT, sT] ty #[.slice (some ⟨g, o, none⟩) dLen dCap, .slice (some a) sLen sCap]).run P w =
      .ok (goInt k) (w.setRow g (cur.toList.take o ++ cs ++ cur.toList.drop (o + cs.length)).toArray) := by
  have hl := run_firstCells_some (P := P) w size k a sLen sCap cs hn hsrc
  have hst := run_storeCells_at P g o t cs 0 cur w hg (by simpa using hfit) h1
  cases hq : P.info? elem with
  | none => simp [hq] at hs
  | some i =>
    have hi : i.size = size := by simpa [hq] using hs
    simp [Builtin.copy_, run_underlying hu, Builtin.lenOf, sizeOf, typeInfo, hq, hi, hk, hl, hst]
theorem ins_end {xs ys : List Value} {n : Nat} (h : xs.length = n * 6) : xs.take (n * 6) ++ ys ++ xs.drop (n * 6) = xs ++ ys := by
  rw [List.take_of_length_le (by omega), List.drop_eq_nil_of_le (by omega), List.append_nil]
set_option maxHeartbeats 1000000 in
theorem insertAt_end {w : World} {base : Nat} {v : Value} {n : Nat} {xs : List Value} (hown : w.ownsRow base 74 6 v n xs) (hbase : base ≤ w.heap.size) (hn : n ≤ 1048576) (vb : Nat) (y0 y1 y2 y3 y4 y5 : Value) (hvs : At w vb 74 #[y0, y1, y2, y3, y4, y5])
    (h1 : ∀ u ∈ [y0, y1, y2, y3, y4, y5], u.oneCell' = true) :
    Calls Tryz.prog 34 #[v, .int .i64 n, .slice (some ⟨vb, 0, none⟩) 1 1] w fun e w' => ∃ v', e = .returned v' ∧ w'.ownsRow base 74 6 v' (n + 1) (xs.take (n * 6) ++ [y0, y1, y2, y3, y4, y5] ++ xs.drop (n * 6)) ∧ w.grownBy w' v.ownBlock ∧ (v'.ownBlock = v.ownBlock ∨ v'.ownBlock = some w.heap.size) := by
  obtain ⟨iF, hiF, hf0, hf1, hf2⟩ := info_parts infoF
  rw [ins_end hown.1]
  have HO := hid hown
  have HV := hid hvs
  have H1 := hid h1
  clear hvs h1
  obtain ⟨_, ⟨rfl, rfl⟩ | ⟨g, cap, cur, rfl, _, _, hcap, hcm, _⟩⟩ := hown
  · go_enter Tryz.func34, Tryz.ntmps34
    go_wp2_with (at_builtin; refine wpList_append_own_at _ rfl (.tmp 23) (.tmp 24) 38 rfl base 74 iF _ 6 96 Tryz.underlying38 hiF hf0 hf1 hf2 rfl (by decide) _ _ _ rfl HO.out ⟨vb, 0, none⟩ 1 1 [y0, y1, y2, y3, y4, y5] rfl rfl (World.news_of_block HV.out) H1.out (by unfold maxLen; omega) (by omega) hbase ?_)
    intro v2 w2 hown2 hgrow2 _ hat2
    go_wp2
    go_ret
    exact ⟨_, rfl, by simpa using hown2, hgrow2, hat2⟩
  · unfold maxLen at hcm
    go_enter Tryz.func34, Tryz.ntmps34
    go_wp2_with (at_builtin; refine wpList_append_own_at _ rfl (.tmp 23) (.tmp 24) 38 rfl base 74 iF _ 6 96 Tryz.underlying38 hiF hf0 hf1 hf2 rfl (by decide) _ _ _ rfl HO.out ⟨vb, 0, none⟩ 1 1 [y0, y1, y2, y3, y4, y5] rfl rfl (World.news_of_block HV.out) H1.out (by unfold maxLen; omega) (by omega) hbase ?_)
    all_goals
      intro v2 w2 hown2 hgrow2 _ hat2
      go_wp2
      go_ret
      exact ⟨_, rfl, hown2, hgrow2, hat2⟩
end Go.Proofs.YtflcibmjblioaaaGreatDoor

/-
  slices.Insert of one field into a row that a call owns: where there is room.
-/
namespace Go.Proofs.YtflcibmjblioaaaGreatDoor
open Go.RowKit
set_option maxRecDepth 100000
attribute [local go_sem ↓] Go.wp_at_zero Go.wp_at_succ

/-- The row, one shifted by six from i on, the new ones laid between. -/
theorem ins_room {cur xs ys : List Value} {n i : Nat} (hx : xs.length = n * 6) (ht : cur.take (n * 6) = xs) (hi : i < n) (hy : ys.length = 6) (hc : (n + 1) * 6 ≤ cur.length) :
    let cur1 := cur.take (i * 6 + 6) ++ xs.drop (i * 6) ++ cur.drop (i * 6 + 6 + (xs.drop (i * 6)).length)
    let cur2 := cur1.take (i * 6) ++ ys ++ cur1.drop (i * 6 + ys.length)
    cur1.length = cur.length ∧ cur2.length = cur.length ∧ cur2.take ((n + 1) * 6) = xs.take (i * 6) ++ ys ++ xs.drop (i * 6) := by
  intro cur1 cur2
  have hd : (xs.drop (i * 6)).length = n * 6 - i * 6 := by rw [List.length_drop, hx]
  have l1 : cur1.length = cur.length := by
    simp only [cur1, List.length_append, List.length_take, List.length_drop, hx]; omega
  have l2 : cur2.length = cur.length := by
    simp only [cur2, List.length_append, List.length_take, List.length_drop, l1, hy]; omega
  refine ⟨l1, l2, ?_⟩
  have e0 : cur.take (i * 6) = xs.take (i * 6) := by rw [← ht, List.take_take, Nat.min_eq_left (by omega)]
  have e1 : cur1.take (i * 6) = xs.take (i * 6) := by
    simp only [cur1, List.append_assoc]
    rw [List.take_append_of_le_length (by rw [List.length_take]; omega), List.take_take, Nat.min_eq_left (by omega), e0]
  have e2 : cur1.drop (i * 6 + ys.length) = xs.drop (i * 6) ++ cur.drop (i * 6 + 6 + (xs.drop (i * 6)).length) := by
    simp only [cur1, List.append_assoc, hy]
    rw [List.drop_append_of_le_length (by rw [List.length_take]; omega), List.drop_eq_nil_of_le (by rw [List.length_take]; omega), List.nil_append]
  show (cur1.take (i * 6) ++ ys ++ cur1.drop (i * 6 + ys.length)).take ((n + 1) * 6) = _
  rw [e1, e2, ← List.append_assoc]
  have hl : (xs.take (i * 6) ++ ys ++ xs.drop (i * 6)).length = (n + 1) * 6 := by
    simp only [List.length_append, List.length_take, List.length_drop, hx, hy]; omega
  rw [List.take_append_of_le_length (by omega), List.take_of_length_le (by omega)]
set_option maxHeartbeats 1000000 in
theorem insertAt_room {w : World} {base g cap n i : Nat} {cur : Array Value} {xs : List Value} (hxl : xs.length = n * 6) (hbg : base ≤ g) (hg : w.heap[g]? = some (.cells cur 74 (0, 0))) (hcm : cap ≤ maxLen) (hcs : cur.size = cap * 6) (ht : cur.toList.take (n * 6) = xs)
    (hn : n ≤ 1048576) (hi : i < n) (hroom : n + 1 ≤ cap) (vb : Nat) (y0 y1 y2 y3 y4 y5 : Value) (hvs : At w vb 74 #[y0, y1, y2, y3, y4, y5]) (hne : g ≠ vb) (h1 : ∀ u ∈ [y0, y1, y2, y3, y4, y5], u.oneCell' = true) (h1x : ∀ u ∈ xs, u.oneCell' = true) :
    Calls Tryz.prog 34 #[.slice (some ⟨g, 0, none⟩) n cap, .int .i64 i, .slice (some ⟨vb, 0, none⟩) 1 1] w fun e w' => ∃ v', e = .returned v' ∧ w'.ownsRow base 74 6 v' (n + 1) (xs.take (i * 6) ++ [y0, y1, y2, y3, y4, y5] ++ xs.drop (i * 6)) ∧ w.grownBy w' (some g) ∧ (v'.ownBlock = some g ∨ v'.ownBlock = some w.heap.size) := by
  have HCM := hid hcm
  unfold maxLen at hcm
  have hz2 : ¬ ((i : Int) = (n : Int)) := by omega
  have hov : ∀ lb cb, (callFunc 60 #[.slice (some ⟨vb, 0, none⟩) 1 1, .slice (some ⟨g, (i + 1) * 6, none⟩) lb cb]).run Tryz.prog w = .ok (.value (.bool false)) w := fun lb cb => by
    rw [run_callFunc_extern Tryz.func60 (by kernel_rfl) (by kernel_rfl) (by kernel_rfl) (e := Extern.SlicesOverlaps.overlaps #[38, 38] #[4]) (by kernel_rfl),
      Lib.run_overlaps_apart w 38 4 74 Tryz.underlying38 6 Tryz.sizeOf74 ⟨vb, 0, none⟩ ⟨g, (i + 1) * 6, none⟩ 1 1 lb cb (Ne.symm hne) 74 74 6 cur.size (by unfold World.shape?; rw [hvs]; rfl) (by unfold World.shape?; rw [hg]) (by omega) (hvs.free 0) (hvs.free 6)]
    rfl
  have hsz : (Tryz.prog.info? 74).map (·.size) = some 6 := by
    obtain ⟨iF, hiF, _, hf1, _⟩ := info_parts infoF
    rw [hiF]; simp [hf1]
  have hdl : (xs.drop (i * 6)).length = (n - i) * 6 := by rw [List.length_drop, hxl]; omega
  have hR := ins_room (cur := cur.toList) (ys := [y0, y1, y2, y3, y4, y5]) hxl ht hi rfl (by simp; omega)
  simp only at hR
  obtain ⟨C1, hC1⟩ : ∃ C1, C1 = cur.toList.take (i * 6 + 6) ++ xs.drop (i * 6) ++ cur.toList.drop (i * 6 + 6 + (xs.drop (i * 6)).length) := ⟨_, rfl⟩
  rw [← hC1] at hR
  obtain ⟨C2, hC2⟩ : ∃ C2, C2 = C1.take (i * 6) ++ [y0, y1, y2, y3, y4, y5] ++ C1.drop (i * 6 + [y0, y1, y2, y3, y4, y5].length) := ⟨_, rfl⟩
  rw [← hC2] at hR
  obtain ⟨hl1, hl2, hR⟩ := hR
  have hcell : ∀ j v, xs[j]? = some v → w.cell? ⟨g, j, none⟩ = some v := fun j v hj => by
    rw [cell_of_row w g j cur _ _ hg]
    rw [← ht, List.getElem?_take] at hj
    split at hj
    · simpa using hj
    · cases hj
  have hcp1 : ∀ ty dc sc, (Builtin.copy_ #[38, 38] ty #[.slice (some ⟨g, (i + 1) * 6, none⟩) (n - i) dc, .slice (some ⟨g, i * 6, none⟩) (n + 1 - i) sc]).run Tryz.prog w.drew = .ok (goInt ((n - i : Nat) : Int)) (w.drew.setRow g C1.toArray) := fun ty dc sc => by
    rw [hC1, show (i + 1) * 6 = i * 6 + 6 by omega]
    exact run_copyN w.drew _ _ ty 74 6 g (i * 6 + 6) (n - i) dc ⟨g, i * 6, none⟩ (n + 1 - i) sc (n - i) cur 74 (xs.drop (i * 6)) Tryz.underlying38 hsz hg (by simp only [Nat.min_def]; split <;> omega) hdl
      (fun j v hj => by rw [Lib.add_plain]; exact hcell (i * 6 + j) v (by rwa [List.getElem?_drop] at hj)) (by rw [hdl, hcs]; omega) (fun v hv => h1x v (List.mem_of_mem_drop hv))
  have hg1 : (w.drew.setRow g C1.toArray).heap[g]? = some (.cells C1.toArray 74 (0, 0)) := setRow_heap w.drew g cur _ _ _ hg
  have hv1 : (w.drew.setRow g C1.toArray).heap[vb]? = some (.cells #[y0, y1, y2, y3, y4, y5] 74 (0, 0)) := (setRow_other w.drew g vb _ (Ne.symm hne)).trans hvs
  have hcp2 : ∀ ty dc, (Builtin.copy_ #[38, 38] ty #[.slice (some ⟨g, i * 6, none⟩) (n + 1 - i) dc, .slice (some ⟨vb, 0, none⟩) 1 1]).run Tryz.prog (w.drew.setRow g C1.toArray) = .ok (goInt 1) ((w.drew.setRow g C1.toArray).setRow g C2.toArray) := fun ty dc => by
    rw [hC2]
    exact run_copyN (w.drew.setRow g C1.toArray) _ _ ty 74 6 g (i * 6) (n + 1 - i) dc ⟨vb, 0, none⟩ 1 1 1 C1.toArray 74 [y0, y1, y2, y3, y4, y5] Tryz.underlying38 hsz hg1 (by simp only [Nat.min_def]; split <;> omega) rfl
      (World.news_of_block hv1) (by simp [hl1]; omega) h1
  have HC1 := hid (And.intro hC1 hC2)
  have HH := hid (And.intro hl1 (And.intro hl2 hR))
  have HFIN := hid (show ((w.drew.setRow g C1.toArray).setRow g C2.toArray).ownsRow base 74 6 (.slice (some ⟨g, 0, none⟩) (n + 1) cap) (n + 1) (xs.take (i * 6) ++ [y0, y1, y2, y3, y4, y5] ++ xs.drop (i * 6)) ∧ w.grownBy ((w.drew.setRow g C1.toArray).setRow g C2.toArray) (some g) from
    ⟨⟨by simp only [List.length_append, List.length_take, List.length_drop, hxl]; simp; omega, .inr ⟨g, cap, C2.toArray, rfl, hbg, setRow_heap _ g _ _ _ _ hg1, hroom, HCM.out, by simp [hl2, hcs], by simpa using hR⟩⟩, ⟨rfl, rfl, rfl, by simp [World.setRow], fun k _ hk => (setRow_other _ g k _ (fun e => hk (by rw [e]))).trans (setRow_other _ g k _ (fun e => hk (by rw [e])))⟩⟩)
  clear hC1 hC2 hl1 hl2 hR hcell hdl hsz hg1 hv1 ht hcs
  have hci : ¬ (cap = i + 1) := by omega
  have hw1 : IntKind.i64.wrap ((i : Int) + 1) = (i : Int) + 1 := by rw [IntKind.wrap_i64]; omega
  have htn : ((i : Int) + 1).toNat = i + 1 := by omega
  have hb1 : (0 : Int) ≤ (i : Int) + 1 := by omega
  have hb2 : (i : Int) + 1 ≤ (n : Int) + 1 := by omega
  have hb3 : (i : Int) ≤ (n : Int) + 1 := by omega
  have hcj : ¬ (cap = i) := by omega
  go_enter Tryz.func34, Tryz.ntmps34
  go_wp2_with (simp only [hov])
  go_region_law ((refine step_copy_runI rfl (.tmp 73) (.tmp 76) 38 38 rfl (.slice (some ⟨g, (i + 1) * 6, none⟩) (n - i) (cap - (i + 1))) (.slice (some ⟨g, i * 6, none⟩) (n + 1 - i) (cap - i)) (by simp [Act.eval, Act.put]) (by simp [Act.eval, Act.put]) (hcp1 3 (cap - (i + 1)) (cap - i)) ?_))
  all_goals go_wp2_with (at_builtin; refine wpList_copy_runI _ rfl (.tmp 80) (.tmp 81) 38 38 rfl (.slice (some ⟨g, i * 6, none⟩) (n + 1 - i) (cap - i)) (.slice (some ⟨vb, 0, none⟩) 1 1) rfl rfl (hcp2 _ _) ?_)
  all_goals go_ret
  all_goals exact ⟨_, rfl, HFIN.out.1, HFIN.out.2, .inl rfl⟩
end Go.Proofs.YtflcibmjblioaaaGreatDoor

/-
  slices.Insert of one field into a row that a call owns: where there is no room; all ways.
-/
namespace Go.Proofs.YtflcibmjblioaaaGreatDoor
open Go.RowKit
set_option maxRecDepth 100000
attribute [local go_sem ↓] Go.wp_at_zero Go.wp_at_succ

theorem ins_grow {row xs ys : List Value} {n i : Nat} (hx : xs.length = n * 6) (ht : row.take (i * 6) = xs.take (i * 6)) (hi : i < n) (hy : ys.length = 6) (hc : (n + 1) * 6 ≤ row.length) :
    let r1 := row.take (i * 6) ++ ys ++ row.drop (i * 6 + ys.length)
    let r2 := r1.take (i * 6 + 6) ++ xs.drop (i * 6) ++ r1.drop (i * 6 + 6 + (xs.drop (i * 6)).length)
    r1.length = row.length ∧ r2.length = row.length ∧ r2.take ((n + 1) * 6) = xs.take (i * 6) ++ ys ++ xs.drop (i * 6) := by
  intro r1 r2
  have l1 : r1.length = row.length := by
    simp only [r1, List.length_append, List.length_take, List.length_drop, hy]; omega
  have hd : (xs.drop (i * 6)).length = n * 6 - i * 6 := by rw [List.length_drop, hx]
  have l2 : r2.length = row.length := by
    simp only [r2, List.length_append, List.length_take, List.length_drop, l1, hx]; omega
  refine ⟨l1, l2, ?_⟩
  have e1 : r1.take (i * 6 + 6) = xs.take (i * 6) ++ ys := by
    simp only [r1, ht]
    have hl : (xs.take (i * 6) ++ ys).length = i * 6 + 6 := by rw [List.length_append, List.length_take, hx, hy]; omega
    rw [List.take_append_of_le_length (by omega), List.take_of_length_le (by omega)]
  show (r1.take (i * 6 + 6) ++ xs.drop (i * 6) ++ r1.drop (i * 6 + 6 + (xs.drop (i * 6)).length)).take ((n + 1) * 6) = _
  rw [e1]
  have hl : (xs.take (i * 6) ++ ys ++ xs.drop (i * 6)).length = (n + 1) * 6 := by
    simp only [List.length_append, List.length_take, List.length_drop, hx, hy]; omega
  rw [List.take_append_of_le_length (by omega), List.take_of_length_le (by omega)]
set_option maxHeartbeats 2000000 in
theorem insertAt_grow {w : World} {base g cap n i : Nat} {cur : Array Value} {xs : List Value} (hbase : base ≤ w.heap.size) (hxl : xs.length = n * 6) (hg : w.heap[g]? = some (.cells cur 74 (0, 0))) (hnc : n ≤ cap) (ht : cur.toList.take (n * 6) = xs)
    (hn : n ≤ 1048576) (hi : i < n) (hroom : cap < n + 1) (vb : Nat) (y0 y1 y2 y3 y4 y5 : Value) (hvs : At w vb 74 #[y0, y1, y2, y3, y4, y5]) (h1 : ∀ u ∈ [y0, y1, y2, y3, y4, y5], u.oneCell' = true) (h1x : ∀ u ∈ xs, u.oneCell' = true) :
    Calls Tryz.prog 34 #[.slice (some ⟨g, 0, none⟩) n cap, .int .i64 i, .slice (some ⟨vb, 0, none⟩) 1 1] w fun e w' => ∃ v', e = .returned v' ∧ w'.ownsRow base 74 6 v' (n + 1) (xs.take (i * 6) ++ [y0, y1, y2, y3, y4, y5] ++ xs.drop (i * 6)) ∧ w.grownBy w' (some g) ∧ (v'.ownBlock = some g ∨ v'.ownBlock = some w.heap.size) := by
  obtain ⟨iF, hiF, hf0, hf1, hf2⟩ := info_parts infoF
  have hsz : (Tryz.prog.info? 74).map (·.size) = some 6 := by rw [hiF]; simp [hf1]
  have hgl := (Array.getElem?_eq_some_iff.1 hg).1
  have hvl := hvs.lt
  have hcell : ∀ j v, xs[j]? = some v → w.cell? ⟨g, j, none⟩ = some v := fun j v hj => by
    rw [cell_of_row w g j cur _ _ hg]
    rw [← ht, List.getElem?_take] at hj
    split at hj
    · simpa using hj
    · cases hj
  have hold : (Builtin.firstCells iF.size i (.slice (some ⟨g, 0, none⟩) i cap)).run Tryz.prog w.drew = .ok (xs.take (i * 6)).toArray w.drew := by
    rw [hf1]
    exact run_firstCells_some w.drew 6 i ⟨g, 0, none⟩ i cap (xs.take (i * 6)) (by rw [List.length_take, hxl]; omega) (fun j v hj => by
      rw [Lib.add_plain]
      rw [List.getElem?_take] at hj
      split at hj
      · rw [Nat.zero_add]; exact hcell j v hj
      · cases hj)
  have hkk : (n : Int) + 1 - (i : Int) = ((n + 1 - i : Nat) : Int) := by omega
  have hik : i + (n + 1 - i) = n + 1 := by omega
  obtain ⟨G, hG⟩ : ∃ G, G = grownCap w (n + 1) cap 74 := ⟨_, rfl⟩
  have hGn : n + 1 ≤ G := by rw [hG]; exact grownCap_ge w _ _ _
  have hGm : G ≤ maxLen := by rw [hG]; exact grownCap_le_maxLen w (n + 1) cap 74 (by unfold maxLen; omega)
  obtain ⟨ROW, hROW⟩ : ∃ ROW : List Value, ROW = xs.take (i * 6) ++ ((Builtin.zeroCells (Value.agg #[.string ⟨#[]⟩, .int .i64 0, .int .i64 0, .string ⟨#[]⟩, .slice none 0 0, .slice none 0 0]).cells (n + 1 - i)).toList ++ (Builtin.zeroCells (Value.agg #[.string ⟨#[]⟩, .int .i64 0, .int .i64 0, .string ⟨#[]⟩, .slice none 0 0, .slice none 0 0]).cells (G - (n + 1))).toList) := ⟨_, rfl⟩
  have hrz : ∀ ty, (Builtin.append_ #[38, 3] ty #[.slice (some ⟨g, 0, none⟩) i cap, .int .i64 ((n : Int) + 1 - (i : Int))]).run Tryz.prog w = .ok (.slice (some ⟨w.heap.size, 0, none⟩) (n + 1) G) (w.drew.alloc (.cells ROW.toArray 74)) := fun ty => by
    have h := Lib.run_append_grow_zeros w 38 3 ty 74 iF _ .i64 .i64 Tryz.underlying38 Tryz.underlying3 hiF hf0 (some ⟨g, 0, none⟩) i cap (xs.take (i * 6)) hold (n + 1 - i) (by omega) (by omega) (by omega) (by omega) (by rw [hf2]; omega) (by rw [hf2, hik]; exact growslice_fits (by omega) (by omega))
    rw [hik, ← hG] at h
    rw [hkk, h]
    have hA : (xs.take (i * 6)).toArray ++ Builtin.zeroCells (Value.agg #[.string ⟨#[]⟩, .int .i64 0, .int .i64 0, .string ⟨#[]⟩, .slice none 0 0, .slice none 0 0]).cells (n + 1 - i) ++ Builtin.zeroCells (Value.agg #[.string ⟨#[]⟩, .int .i64 0, .int .i64 0, .string ⟨#[]⟩, .slice none 0 0, .slice none 0 0]).cells (G - (n + 1)) = ROW.toArray := by
      apply Array.ext'
      rw [hROW]
      simp only [Array.toList_append, List.append_assoc]
    rw [hA]
  have hRl : ROW.length = G * 6 := by
    rw [hROW]
    simp only [List.length_append, List.length_take, hxl, Array.length_toList, size_zeroCells]
    simp [Value.cells]
    omega
  have hRt : ROW.take (i * 6) = xs.take (i * 6) := by
    have hl : (xs.take (i * 6)).length = i * 6 := by rw [List.length_take, hxl]; omega
    rw [hROW, List.take_append_of_le_length (by omega), List.take_of_length_le (by omega)]
  have hR := ins_grow (row := ROW) (ys := [y0, y1, y2, y3, y4, y5]) hxl hRt hi rfl (by omega)
  simp only at hR
  obtain ⟨C1, hC1⟩ : ∃ C1, C1 = ROW.take (i * 6) ++ [y0, y1, y2, y3, y4, y5] ++ ROW.drop (i * 6 + [y0, y1, y2, y3, y4, y5].length) := ⟨_, rfl⟩
  rw [← hC1] at hR
  obtain ⟨C2, hC2⟩ : ∃ C2, C2 = C1.take (i * 6 + 6) ++ xs.drop (i * 6) ++ C1.drop (i * 6 + 6 + (xs.drop (i * 6)).length) := ⟨_, rfl⟩
  rw [← hC2] at hR
  obtain ⟨hl1, hl2, hR⟩ := hR
  have hdl : (xs.drop (i * 6)).length = (n - i) * 6 := by rw [List.length_drop, hxl]; omega
  obtain ⟨H, hH⟩ : ∃ H, H = w.heap.size := ⟨_, rfl⟩
  have hcpA : ∀ W : World, W.heap[H]? = some (.cells ROW.toArray 74 (0, 0)) → W.heap[vb]? = some (.cells #[y0, y1, y2, y3, y4, y5] 74 (0, 0)) → ∀ ty dc, (Builtin.copy_ #[38, 38] ty #[.slice (some ⟨H, i * 6, none⟩) (n + 1 - i) dc, .slice (some ⟨vb, 0, none⟩) 1 1]).run Tryz.prog W = .ok (goInt 1) (W.setRow H C1.toArray) := fun W hW hV ty dc => by
    rw [hC1]
    exact run_copyN W _ _ ty 74 6 H (i * 6) (n + 1 - i) dc ⟨vb, 0, none⟩ 1 1 1 ROW.toArray 74 [y0, y1, y2, y3, y4, y5] Tryz.underlying38 hsz hW (by simp only [Nat.min_def]; split <;> omega) rfl (World.news_of_block hV) (by simp [hRl]; omega) h1
  have hcpB : ∀ W : World, W.heap[H]? = some (.cells C1.toArray 74 (0, 0)) → W.heap[g]? = some (.cells cur 74 (0, 0)) → ∀ ty dc sc, (Builtin.copy_ #[38, 38] ty #[.slice (some ⟨H, (i + 1) * 6, none⟩) (n - i) dc, .slice (some ⟨g, i * 6, none⟩) (n - i) sc]).run Tryz.prog W = .ok (goInt ((n - i : Nat) : Int)) (W.setRow H C2.toArray) := fun W hW hV ty dc sc => by
    rw [hC2, show (i + 1) * 6 = i * 6 + 6 by omega]
    exact run_copyN W _ _ ty 74 6 H (i * 6 + 6) (n - i) dc ⟨g, i * 6, none⟩ (n - i) sc (n - i) C1.toArray 74 (xs.drop (i * 6)) Tryz.underlying38 hsz hW (by simp only [Nat.min_def]; split <;> omega) hdl
      (fun j v hj => by
        rw [Lib.add_plain, cell_of_row W g _ cur _ _ hV, ← cell_of_row w g _ cur _ _ hg]
        exact hcell (i * 6 + j) v (by rwa [List.getElem?_drop] at hj)) (by simp only [List.size_toArray, hl1, hRl, hdl]; omega) (fun v hv => h1x v (List.mem_of_mem_drop hv))
  have HFIN := hid (show ∀ W : World, W.heap[H]? = some (.cells C1.toArray 74 (0, 0)) → w.grownBy W none → (W.setRow H C2.toArray).ownsRow base 74 6 (.slice (some ⟨H, 0, none⟩) (n + 1) G) (n + 1) (xs.take (i * 6) ++ [y0, y1, y2, y3, y4, y5] ++ xs.drop (i * 6)) ∧ w.grownBy (W.setRow H C2.toArray) (some g) from fun W hW hB =>
    ⟨⟨by simp only [List.length_append, List.length_take, List.length_drop, hxl]; simp; omega, .inr ⟨H, G, C2.toArray, rfl, by omega, setRow_heap _ H _ _ _ _ hW, hGn, hGm, by simp [hl2, hRl], by simpa using hR⟩⟩, ⟨hB.os, hB.tape, hB.output, by simp only [World.setRow, Array.size_modify]; exact hB.size, fun k hk _ => (setRow_other W H k _ (by omega)).trans (hB.block k hk (by simp))⟩⟩)
  rw [← hH] at hrz
  have HHH := hid hH
  have hgH : g ≠ H := by omega
  have hvH : vb ≠ H := by omega
  have HG := hid (And.intro hg hvs)
  clear hC1 hC2 hl1 hl2 hR hcell hdl hsz ht hold hkk hik hG hROW hRl hRt hH hg hvs
  unfold maxLen at hGm
  have hci : ¬ (cap = i) := by omega
  have hGi : ¬ (G = i) := by omega
  have hGj : ¬ (G = i + 1) := by omega
  have hz2 : ¬ ((i : Int) = (n : Int)) := by omega
  have hw1 : IntKind.i64.wrap ((i : Int) + 1) = (i : Int) + 1 := by rw [IntKind.wrap_i64]; omega
  have htn : ((i : Int) + 1).toNat = i + 1 := by omega
  have hb1 : (0 : Int) ≤ (i : Int) + 1 := by omega
  have hb2 : (i : Int) + 1 ≤ (n : Int) + 1 := by omega
  have hb3 : (i : Int) ≤ (n : Int) + 1 := by omega
  have hb4 : (i : Int) ≤ (n : Int) := by omega
  have hE0 : (w.drew.alloc (.cells ROW.toArray 74)).heap[H]? = some (.cells ROW.toArray 74 (0, 0)) := by rw [HHH.out]; exact heap_alloc_new w.drew _
  have hE1 : (w.drew.alloc (.cells ROW.toArray 74)).heap[vb]? = some (.cells #[y0, y1, y2, y3, y4, y5] 74 (0, 0)) := (heap_alloc_old w.drew _ (by exact hvl)).trans HG.out.2
  have hE2 : (w.drew.alloc (.cells ROW.toArray 74)).heap[g]? = some (.cells cur 74 (0, 0)) := (heap_alloc_old w.drew _ (by exact hgl)).trans HG.out.1
  have HEE := hid (And.intro hE0 (And.intro hE1 hE2))
  clear hE0 hE1 hE2
  go_enter Tryz.func34, Tryz.ntmps34
  have hcA := fun ty dc => hcpA (w.alloc (.cells ROW.toArray 74)).drew (by exact HEE.out.1) (by exact HEE.out.2.1) ty dc
  go_wp2_with (at_builtin; refine Lib.wpList_append_run _ rfl (.tmp 34) (.tmp 39) 38 3 rfl _ _ rfl rfl _ _ (hrz _) ?_)
  go_region_law ((refine step_copy_runI rfl (.tmp 50) (.tmp 53) 38 38 rfl (.slice (some ⟨H, (i + 1) * 6, none⟩) (n - i) (G - (i + 1))) (.slice (some ⟨g, i * 6, none⟩) (n - i) (cap - i)) (by simp [Act.eval, Act.put]) (by simp [Act.eval, Act.put]) (hcpB _ (by exact setRow_heap (w.drew.alloc (.cells ROW.toArray 74)) H _ _ _ _ HEE.out.1) (by exact (setRow_other (w.drew.alloc (.cells ROW.toArray 74)) H g _ hgH).trans HEE.out.2.2) 3 (G - (i + 1)) (cap - i)) ?_))
  all_goals go_wp2_with fail
  all_goals go_ret
  all_goals
    obtain ⟨hf1', hf2'⟩ := HFIN.out ((w.drew.alloc (.cells ROW.toArray 74)).setRow H C1.toArray) (setRow_heap _ H _ _ _ _ HEE.out.1) ⟨rfl, rfl, rfl, by simp [World.setRow], fun k hk _ => (setRow_other _ H k _ (by have := HHH.out; omega)).trans (heap_alloc_old w.drew _ hk)⟩
    exact ⟨_, rfl, hf1', ⟨hf2'.os, hf2'.tape, hf2'.output, hf2'.size, hf2'.block⟩, .inr (by rw [← HHH.out]; rfl)⟩
/-- Whichever way it goes. -/
theorem insertAt_says {w : World} {base n i : Nat} {v : Value} {xs : List Value} (hown : w.ownsRow base 74 6 v n xs) (hbase : base ≤ w.heap.size) (hn : n ≤ 1048576) (hi : i ≤ n) (vb : Nat) (y0 y1 y2 y3 y4 y5 : Value) (hvs : At w vb 74 #[y0, y1, y2, y3, y4, y5]) (hne : v.ownBlock ≠ some vb)
    (h1 : ∀ u ∈ [y0, y1, y2, y3, y4, y5], u.oneCell' = true) (h1x : ∀ u ∈ xs, u.oneCell' = true) :
    Calls Tryz.prog 34 #[v, .int .i64 i, .slice (some ⟨vb, 0, none⟩) 1 1] w fun e w' => ∃ v', e = .returned v' ∧ w'.ownsRow base 74 6 v' (n + 1) (xs.take (i * 6) ++ [y0, y1, y2, y3, y4, y5] ++ xs.drop (i * 6)) ∧ w.grownBy w' v.ownBlock ∧ (v'.ownBlock = v.ownBlock ∨ v'.ownBlock = some w.heap.size) := by
  by_cases he : i = n
  · subst he
    exact insertAt_end hown hbase hn vb y0 y1 y2 y3 y4 y5 hvs h1
  · have hlt : i < n := by omega
    obtain ⟨hxl, ⟨rfl, h0⟩ | ⟨g, cap, cur, rfl, hbg, hg, hnc, hcm, hcs, ht⟩⟩ := hown
    · omega
    · by_cases hr : n + 1 ≤ cap
      · exact insertAt_room hxl hbg hg hcm hcs ht hn hlt hr vb y0 y1 y2 y3 y4 y5 hvs (by simpa [Value.ownBlock] using hne) h1 h1x
      · exact insertAt_grow hbase hxl hg hnc ht hn hlt (by omega) vb y0 y1 y2 y3 y4 y5 hvs h1 h1x
theorem insert_says {w : World} {base n i : Nat} {v : Value} {xs : List Value} (hown : w.ownsRow base 74 6 v n xs) (hbase : base ≤ w.heap.size) (hn : n ≤ 1048576) (hi : i ≤ n) (vb : Nat) (y0 y1 y2 y3 y4 y5 : Value) (hvs : At w vb 74 #[y0, y1, y2, y3, y4, y5]) (hne : v.ownBlock ≠ some vb)
    (h1 : ∀ u ∈ [y0, y1, y2, y3, y4, y5], u.oneCell' = true) (h1x : ∀ u ∈ xs, u.oneCell' = true) :
    Calls Tryz.prog 34 #[v, .int .i64 i, .slice (some ⟨vb, 0, none⟩) 1 1] w fun e w' => ∃ v', e = .returned v' ∧ w'.ownsRow base 74 6 v' (n + 1) (xs.take (i * 6) ++ [y0, y1, y2, y3, y4, y5] ++ xs.drop (i * 6)) ∧ w.grownBy w' v.ownBlock := by
  refine (insertAt_says hown hbase hn hi vb y0 y1 y2 y3 y4 y5 hvs hne h1 h1x).mono ?_
  rintro e w' ⟨v', h1, h2, h3, _⟩
  exact ⟨v', h1, h2, h3⟩
end Go.Proofs.YtflcibmjblioaaaGreatDoor
