/-
  Joined: Ve2, Ve3, Yt.
-/
import Derived.Test.YtobpidmlgldnmaaGreatDoorVe1

/-
  slices.Insert of one field into a row that a call owns: where there is room.
-/
namespace Go.Proofs.YtobpidmlgldnmaaGreatDoor
open Go.RowKit
set_option maxRecDepth 100000
attribute [local go_sem ↓] Go.wp_at_zero Go.wp_at_succ

/-- The row, one shifted by six from i on, the new ones laid between. -/
theorem ins_room {cur xs ys : List Value} {n i : Nat} (hx : xs.length = n * 6) (ht : cur.take (n * 6) = xs) (hi : i < n) (hy : ys.length = 6) (hc : (n + 1) * 6 ≤ cur.length) :
    let cur1 := cur.take (i * 6 + 6) ++ xs.drop (i * 6) ++ cur.drop (i * 6 + 6 + (xs.drop (i * 6)).length)
    let cur2 := cur1.take (i * 6) ++ ys ++ cur1.drop (i * 6 + ys.length)
    cur1.length = cur.length ∧ cur2.length = cur.length ∧ cur2.take ((n + 1) * 6) = xs.take (i * 6) ++ ys ++ xs.drop (i * 6) := by
  intro cur1 cur2
  have hd : (xs.drop (i * 6)).length = n * 6 - i * 6 := by rw [List.length_drop, hx]
  have l1 : cur1.length = cur.length := by
    simp only [cur1, List.length_append, List.length_take, List.length_drop, hx]; omega
  have l2 : cur2.length = cur.length := by
    simp only [cur2, List.length_append, List.length_take, List.length_drop, l1, hy]; omega
  refine ⟨l1, l2, ?_⟩
  have e0 : cur.take (i * 6) = xs.take (i * 6) := by rw [← ht, List.take_take, Nat.min_eq_left (by omega)]
  have e1 : cur1.take (i * 6) = xs.take (i * 6) := by
    simp only [cur1, List.append_assoc]
    rw [List.take_append_of_le_length (by rw [List.length_take]; omega), List.take_take, Nat.min_eq_left (by omega), e0]
  have e2 : cur1.drop (i * 6 + ys.length) = xs.drop (i * 6) ++ cur.drop (i * 6 + 6 + (xs.drop (i * 6)).length) := by
    simp only [cur1, List.append_assoc, hy]
    rw [List.drop_append_of_le_length (by rw [List.length_take]; omega), List.drop_eq_nil_of_le (by rw [List.length_take]; omega), List.nil_append]
  show (cur1.take (i * 6) ++ ys ++ cur1.drop (i * 6 + ys.length)).take ((n + 1) * 6) = _
  rw [e1, e2, ← List.append_assoc]
  have hl : (xs.take (i * 6) ++ ys ++ xs.drop (i * 6)).length = (n + 1) * 6 := by
    simp only [List.length_append, List.length_take, List.length_drop, hx, hy]; omega
  rw [List.take_append_of_le_length (by omega), List.take_of_length_le (by omega)]
set_option maxHeartbeats 1000000 in
theorem insertAt_room {w : World} {base g cap n i : Nat} {cur : Array Value} {xs : List Value} (hxl : xs.length = n * 6) (hbg : base ≤ g) (hg : w.heap[g]? = some (.cells cur 111 (0, 0))) (hcm : cap ≤ maxLen) (hcs : cur.size = cap * 6) (ht : cur.toList.take (n * 6) = xs)
    (hn : n ≤ 1048576) (hi : i < n) (hroom : n + 1 ≤ cap) (vb : Nat) (y0 y1 y2 y3 y4 y5 : Value) (hvs : At w vb 111 #[y0, y1, y2, y3, y4, y5]) (hne : g ≠ vb) (h1 : ∀ u ∈ [y0, y1, y2, y3, y4, y5], u.oneCell' = true) (h1x : ∀ u ∈ xs, u.oneCell' = true) :
    Calls Tryz.prog 118 #[.slice (some ⟨g, 0, none⟩) n cap, .int .i64 i, .slice (some ⟨vb, 0, none⟩) 1 1] w fun e w' => ∃ v', e = .returned v' ∧ w'.ownsRow base 111 6 v' (n + 1) (xs.take (i * 6) ++ [y0, y1, y2, y3, y4, y5] ++ xs.drop (i * 6)) ∧ w.grownBy w' (some g) ∧ (v'.ownBlock = some g ∨ v'.ownBlock = some w.heap.size) := by
  have HCM := hid hcm
  unfold maxLen at hcm
  have hz2 : ¬ ((i : Int) = (n : Int)) := by omega
  have hov : ∀ lb cb, (callFunc 135 #[.slice (some ⟨vb, 0, none⟩) 1 1, .slice (some ⟨g, (i + 1) * 6, none⟩) lb cb]).run Tryz.prog w = .ok (.value (.bool false)) w := fun lb cb => by
    rw [run_callFunc_extern Tryz.func135 (by kernel_rfl) (by kernel_rfl) (by kernel_rfl) (e := Extern.SlicesOverlaps.overlaps #[36, 36] #[4]) (by kernel_rfl),
      Lib.run_overlaps_apart w 36 4 111 Tryz.underlying36 6 Tryz.sizeOf111 ⟨vb, 0, none⟩ ⟨g, (i + 1) * 6, none⟩ 1 1 lb cb (Ne.symm hne) 111 111 6 cur.size (by unfold World.shape?; rw [hvs]; rfl) (by unfold World.shape?; rw [hg]) (by omega) (hvs.free 0) (hvs.free 6)]
    rfl
  have hsz : (Tryz.prog.info? 111).map (·.size) = some 6 := by
    obtain ⟨iF, hiF, _, hf1, _⟩ := info_parts infoF
    rw [hiF]; simp [hf1]
  have hdl : (xs.drop (i * 6)).length = (n - i) * 6 := by rw [List.length_drop, hxl]; omega
  have hR := ins_room (cur := cur.toList) (ys := [y0, y1, y2, y3, y4, y5]) hxl ht hi rfl (by simp; omega)
  simp only at hR
  obtain ⟨C1, hC1⟩ : ∃ C1, C1 = cur.toList.take (i * 6 + 6) ++ xs.drop (i * 6) ++ cur.toList.drop (i * 6 + 6 + (xs.drop (i * 6)).length) := ⟨_, rfl⟩
  rw [← hC1] at hR
  obtain ⟨C2, hC2⟩ : ∃ C2, C2 = C1.take (i * 6) ++ [y0, y1, y2, y3, y4, y5] ++ C1.drop (i * 6 + [y0, y1, y2, y3, y4, y5].length) := ⟨_, rfl⟩
  rw [← hC2] at hR
  obtain ⟨hl1, hl2, hR⟩ := hR
  have hcell : ∀ j v, xs[j]? = some v → w.cell? ⟨g, j, none⟩ = some v := fun j v hj => by
    rw [cell_of_row w g j cur _ _ hg]
    rw [← ht, List.getElem?_take] at hj
    split at hj
    · simpa using hj
    · cases hj
  have hcp1 : ∀ ty dc sc, (Builtin.copy_ #[36, 36] ty #[.slice (some ⟨g, (i + 1) * 6, none⟩) (n - i) dc, .slice (some ⟨g, i * 6, none⟩) (n + 1 - i) sc]).run Tryz.prog w.drew = .ok (goInt ((n - i : Nat) : Int)) (w.drew.setRow g C1.toArray) := fun ty dc sc => by
    rw [hC1, show (i + 1) * 6 = i * 6 + 6 by omega]
    exact run_copyN w.drew _ _ ty 111 6 g (i * 6 + 6) (n - i) dc ⟨g, i * 6, none⟩ (n + 1 - i) sc (n - i) cur 111 (xs.drop (i * 6)) Tryz.underlying36 hsz hg (by simp only [Nat.min_def]; split <;> omega) hdl
      (fun j v hj => by rw [Lib.add_plain]; exact hcell (i * 6 + j) v (by rwa [List.getElem?_drop] at hj)) (by rw [hdl, hcs]; omega) (fun v hv => h1x v (List.mem_of_mem_drop hv))
  have hg1 : (w.drew.setRow g C1.toArray).heap[g]? = some (.cells C1.toArray 111 (0, 0)) := setRow_heap w.drew g cur _ _ _ hg
  have hv1 : (w.drew.setRow g C1.toArray).heap[vb]? = some (.cells #[y0, y1, y2, y3, y4, y5] 111 (0, 0)) := (setRow_other w.drew g vb _ (Ne.symm hne)).trans hvs
  have hcp2 : ∀ ty dc, (Builtin.copy_ #[36, 36] ty #[.slice (some ⟨g, i * 6, none⟩) (n + 1 - i) dc, .slice (some ⟨vb, 0, none⟩) 1 1]).run Tryz.prog (w.drew.setRow g C1.toArray) = .ok (goInt 1) ((w.drew.setRow g C1.toArray).setRow g C2.toArray) := fun ty dc => by
    rw [hC2]
    exact run_copyN (w.drew.setRow g C1.toArray) _ _ ty 111 6 g (i * 6) (n + 1 - i) dc ⟨vb, 0, none⟩ 1 1 1 C1.toArray 111 [y0, y1, y2, y3, y4, y5] Tryz.underlying36 hsz hg1 (by simp only [Nat.min_def]; split <;> omega) rfl
      (World.news_of_block hv1) (by simp [hl1]; omega) h1
  have HC1 := hid (And.intro hC1 hC2)
  have HH := hid (And.intro hl1 (And.intro hl2 hR))
  have HFIN := hid (show ((w.drew.setRow g C1.toArray).setRow g C2.toArray).ownsRow base 111 6 (.slice (some ⟨g, 0, none⟩) (n + 1) cap) (n + 1) (xs.take (i * 6) ++ [y0, y1, y2, y3, y4, y5] ++ xs.drop (i * 6)) ∧ w.grownBy ((w.drew.setRow g C1.toArray).setRow g C2.toArray) (some g) from
    ⟨⟨by simp only [List.length_append, List.length_take, List.length_drop, hxl]; simp; omega, .inr ⟨g, cap, C2.toArray, rfl, hbg, setRow_heap _ g _ _ _ _ hg1, hroom, HCM.out, by simp [hl2, hcs], by simpa using hR⟩⟩, ⟨rfl, rfl, rfl, by simp [World.setRow], fun k _ hk => (setRow_other _ g k _ (fun e => hk (by rw [e]))).trans (setRow_other _ g k _ (fun e => hk (by rw [e])))⟩⟩)
  clear hC1 hC2 hl1 hl2 hR hcell hdl hsz hg1 hv1 ht hcs
  have hci : ¬ (cap = i + 1) := by omega
  have hw1 : IntKind.i64.wrap ((i : Int) + 1) = (i : Int) + 1 := by rw [IntKind.wrap_i64]; omega
  have htn : ((i : Int) + 1).toNat = i + 1 := by omega
  have hb1 : (0 : Int) ≤ (i : Int) + 1 := by omega
  have hb2 : (i : Int) + 1 ≤ (n : Int) + 1 := by omega
  have hb3 : (i : Int) ≤ (n : Int) + 1 := by omega
  have hcj : ¬ (cap = i) := by omega
  go_enter Tryz.func118, Tryz.ntmps118
  go_wp2_with (simp only [hov])
  go_region_law ((refine step_copy_runI rfl (.tmp 73) (.tmp 76) 36 36 rfl (.slice (some ⟨g, (i + 1) * 6, none⟩) (n - i) (cap - (i + 1))) (.slice (some ⟨g, i * 6, none⟩) (n + 1 - i) (cap - i)) (by simp [Act.eval, Act.put]) (by simp [Act.eval, Act.put]) (hcp1 3 (cap - (i + 1)) (cap - i)) ?_))
  all_goals go_wp2_with (at_builtin; refine wpList_copy_runI _ rfl (.tmp 80) (.tmp 81) 36 36 rfl (.slice (some ⟨g, i * 6, none⟩) (n + 1 - i) (cap - i)) (.slice (some ⟨vb, 0, none⟩) 1 1) rfl rfl (hcp2 _ _) ?_)
  all_goals go_ret
  all_goals exact ⟨_, rfl, HFIN.out.1, HFIN.out.2, .inl rfl⟩
end Go.Proofs.YtobpidmlgldnmaaGreatDoor

/-
  slices.Insert of one field into a row that a call owns: where there is no room; all ways.
-/
namespace Go.Proofs.YtobpidmlgldnmaaGreatDoor
open Go.RowKit
set_option maxRecDepth 100000
attribute [local go_sem ↓] Go.wp_at_zero Go.wp_at_succ

theorem ins_grow {row xs ys : List Value} {n i : Nat} (hx : xs.length = n * 6) (ht : row.take (i * 6) = xs.take (i * 6)) (hi : i < n) (hy : ys.length = 6) (hc : (n + 1) * 6 ≤ row.length) :
    let r1 := row.take (i * 6) ++ ys ++ row.drop (i * 6 + ys.length)
    let r2 := r1.take (i * 6 + 6) ++ xs.drop (i * 6) ++ r1.drop (i * 6 + 6 + (xs.drop (i * 6)).length)
    r1.length = row.length ∧ r2.length = row.length ∧ r2.take ((n + 1) * 6) = xs.take (i * 6) ++ ys ++ xs.drop (i * 6) := by
  intro r1 r2
  have l1 : r1.length = row.length := by
    simp only [r1, List.length_append, List.length_take, List.length_drop, hy]; omega
  have hd : (xs.drop (i * 6)).length = n * 6 - i * 6 := by rw [List.length_drop, hx]
  have l2 : r2.length = row.length := by
    simp only [r2, List.length_append, List.length_take, List.length_drop, l1, hx]; omega
  refine ⟨l1, l2, ?_⟩
  have e1 : r1.take (i * 6 + 6) = xs.take (i * 6) ++ ys := by
    simp only [r1, ht]
    have hl : (xs.take (i * 6) ++ ys).length = i * 6 + 6 := by rw [List.length_append, List.length_take, hx, hy]; omega
    rw [List.take_append_of_le_length (by omega), List.take_of_length_le (by omega)]
  show (r1.take (i * 6 + 6) ++ xs.drop (i * 6) ++ r1.drop (i * 6 + 6 + (xs.drop (i * 6)).length)).take ((n + 1) * 6) = _
  rw [e1]
  have hl : (xs.take (i * 6) ++ ys ++ xs.drop (i * 6)).length = (n + 1) * 6 := by
    simp only [List.length_append, List.length_take, List.length_drop, hx, hy]; omega
  rw [List.take_append_of_le_length (by omega), List.take_of_length_le (by omega)]
set_option maxHeartbeats 2000000 in
theorem insertAt_grow {w : World} {base g cap n i : Nat} {cur : Array Value} {xs : List Value} (hbase : base ≤ w.heap.size) (hxl : xs.length = n * 6) (hg : w.heap[g]? = some (.cells cur 111 (0, 0))) (hnc : n ≤ cap) (ht : cur.toList.take (n * 6) = xs)
    (hn : n ≤ 1048576) (hi : i < n) (hroom : cap < n + 1) (vb : Nat) (y0 y1 y2 y3 y4 y5 : Value) (hvs : At w vb 111 #[y0, y1, y2, y3, y4, y5]) (h1 : ∀ u ∈ [y0, y1, y2, y3, y4, y5], u.oneCell' = true) (h1x : ∀ u ∈ xs, u.oneCell' = true) :
    Calls Tryz.prog 118 #[.slice (some ⟨g, 0, none⟩) n cap, .int .i64 i, .slice (some ⟨vb, 0, none⟩) 1 1] w fun e w' => ∃ v', e = .returned v' ∧ w'.ownsRow base 111 6 v' (n + 1) (xs.take (i * 6) ++ [y0, y1, y2, y3, y4, y5] ++ xs.drop (i * 6)) ∧ w.grownBy w' (some g) ∧ (v'.ownBlock = some g ∨ v'.ownBlock = some w.heap.size) := by
  obtain ⟨iF, hiF, hf0, hf1, hf2⟩ := info_parts infoF
  have hsz : (Tryz.prog.info? 111).map (·.size) = some 6 := by rw [hiF]; simp [hf1]
  have hgl := (Array.getElem?_eq_some_iff.1 hg).1
  have hvl := hvs.lt
  have hcell : ∀ j v, xs[j]? = some v → w.cell? ⟨g, j, none⟩ = some v := fun j v hj => by
    rw [cell_of_row w g j cur _ _ hg]
    rw [← ht, List.getElem?_take] at hj
    split at hj
    · simpa using hj
    · cases hj
  have hold : (Builtin.firstCells iF.size i (.slice (some ⟨g, 0, none⟩) i cap)).run Tryz.prog w.drew = .ok (xs.take (i * 6)).toArray w.drew := by
    rw [hf1]
    exact run_firstCells_some w.drew 6 i ⟨g, 0, none⟩ i cap (xs.take (i * 6)) (by rw [List.length_take, hxl]; omega) (fun j v hj => by
      rw [Lib.add_plain]
      rw [List.getElem?_take] at hj
      split at hj
      · rw [Nat.zero_add]; exact hcell j v hj
      · cases hj)
  have hkk : (n : Int) + 1 - (i : Int) = ((n + 1 - i : Nat) : Int) := by omega
  have hik : i + (n + 1 - i) = n + 1 := by omega
  obtain ⟨G, hG⟩ : ∃ G, G = grownCap w (n + 1) cap 111 := ⟨_, rfl⟩
  have hGn : n + 1 ≤ G := by rw [hG]; exact grownCap_ge w _ _ _
  have hGm : G ≤ maxLen := by rw [hG]; exact grownCap_le_maxLen w (n + 1) cap 111 (by unfold maxLen; omega)
  obtain ⟨ROW, hROW⟩ : ∃ ROW : List Value, ROW = xs.take (i * 6) ++ ((Builtin.zeroCells (Value.agg #[.string ⟨#[]⟩, .int .i64 0, .int .i64 0, .string ⟨#[]⟩, .slice none 0 0, .slice none 0 0]).cells (n + 1 - i)).toList ++ (Builtin.zeroCells (Value.agg #[.string ⟨#[]⟩, .int .i64 0, .int .i64 0, .string ⟨#[]⟩, .slice none 0 0, .slice none 0 0]).cells (G - (n + 1))).toList) := ⟨_, rfl⟩
  have hrz : ∀ ty, (Builtin.append_ #[36, 3] ty #[.slice (some ⟨g, 0, none⟩) i cap, .int .i64 ((n : Int) + 1 - (i : Int))]).run Tryz.prog w = .ok (.slice (some ⟨w.heap.size, 0, none⟩) (n + 1) G) (w.drew.alloc (.cells ROW.toArray 111)) := fun ty => by
    have h := Lib.run_append_grow_zeros w 36 3 ty 111 iF _ .i64 .i64 Tryz.underlying36 Tryz.underlying3 hiF hf0 (some ⟨g, 0, none⟩) i cap (xs.take (i * 6)) hold (n + 1 - i) (by omega) (by omega) (by omega) (by omega) (by rw [hf2]; omega) (by rw [hf2, hik]; exact growslice_fits (by omega) (by omega))
    rw [hik, ← hG] at h
    rw [hkk, h]
    have hA : (xs.take (i * 6)).toArray ++ Builtin.zeroCells (Value.agg #[.string ⟨#[]⟩, .int .i64 0, .int .i64 0, .string ⟨#[]⟩, .slice none 0 0, .slice none 0 0]).cells (n + 1 - i) ++ Builtin.zeroCells (Value.agg #[.string ⟨#[]⟩, .int .i64 0, .int .i64 0, .string ⟨#[]⟩, .slice none 0 0, .slice none 0 0]).cells (G - (n + 1)) = ROW.toArray := by
      apply Array.ext'
      rw [hROW]
      simp only [Array.toList_append, List.append_assoc]
    rw [hA]
  have hRl : ROW.length = G * 6 := by
    rw [hROW]
    simp only [List.length_append, List.length_take, hxl, Array.length_toList, size_zeroCells]
    simp [Value.cells]
    omega
  have hRt : ROW.take (i * 6) = xs.take (i * 6) := by
    have hl : (xs.take (i * 6)).length = i * 6 := by rw [List.length_take, hxl]; omega
    rw [hROW, List.take_append_of_le_length (by omega), List.take_of_length_le (by omega)]
  have hR := ins_grow (row := ROW) (ys := [y0, y1, y2, y3, y4, y5]) hxl hRt hi rfl (by omega)
  simp only at hR
  obtain ⟨C1, hC1⟩ : ∃ C1, C1 = ROW.take (i * 6) ++ [y0, y1, y2, y3, y4, y5] ++ ROW.drop (i * 6 + [y0, y1, y2, y3, y4, y5].length) := ⟨_, rfl⟩
  rw [← hC1] at hR
  obtain ⟨C2, hC2⟩ : ∃ C2, C2 = C1.take (i * 6 + 6) ++ xs.drop (i * 6) ++ C1.drop (i * 6 + 6 + (xs.drop (i * 6)).length) := ⟨_, rfl⟩
  rw [← hC2] at hR
  obtain ⟨hl1, hl2, hR⟩ := hR
  have hdl : (xs.drop (i * 6)).length = (n - i) * 6 := by rw [List.length_drop, hxl]; omega
  obtain ⟨H, hH⟩ : ∃ H, H = w.heap.size := ⟨_, rfl⟩
  have hcpA : ∀ W : World, W.heap[H]? = some (.cells ROW.toArray 111 (0, 0)) → W.heap[vb]? = some (.cells #[y0, y1, y2, y3, y4, y5] 111 (0, 0)) → ∀ ty dc, (Builtin.copy_ #[36, 36] ty #[.slice (some ⟨H, i * 6, none⟩) (n + 1 - i) dc, .slice (some ⟨vb, 0, none⟩) 1 1]).run Tryz.prog W = .ok (goInt 1) (W.setRow H C1.toArray) := fun W hW hV ty dc => by
    rw [hC1]
    exact run_copyN W _ _ ty 111 6 H (i * 6) (n + 1 - i) dc ⟨vb, 0, none⟩ 1 1 1 ROW.toArray 111 [y0, y1, y2, y3, y4, y5] Tryz.underlying36 hsz hW (by simp only [Nat.min_def]; split <;> omega) rfl (World.news_of_block hV) (by simp [hRl]; omega) h1
  have hcpB : ∀ W : World, W.heap[H]? = some (.cells C1.toArray 111 (0, 0)) → W.heap[g]? = some (.cells cur 111 (0, 0)) → ∀ ty dc sc, (Builtin.copy_ #[36, 36] ty #[.slice (some ⟨H, (i + 1) * 6, none⟩) (n - i) dc, .slice (some ⟨g, i * 6, none⟩) (n - i) sc]).run Tryz.prog W = .ok (goInt ((n - i : Nat) : Int)) (W.setRow H C2.toArray) := fun W hW hV ty dc sc => by
    rw [hC2, show (i + 1) * 6 = i * 6 + 6 by omega]
    exact run_copyN W _ _ ty 111 6 H (i * 6 + 6) (n - i) dc ⟨g, i * 6, none⟩ (n - i) sc (n - i) C1.toArray 111 (xs.drop (i * 6)) Tryz.underlying36 hsz hW (by simp only [Nat.min_def]; split <;> omega) hdl
      (fun j v hj => by
        rw [Lib.add_plain, cell_of_row W g _ cur _ _ hV, ← cell_of_row w g _ cur _ _ hg]
        exact hcell (i * 6 + j) v (by rwa [List.getElem?_drop] at hj)) (by simp only [List.size_toArray, hl1, hRl, hdl]; omega) (fun v hv => h1x v (List.mem_of_mem_drop hv))
  have HFIN := hid (show ∀ W : World, W.heap[H]? = some (.cells C1.toArray 111 (0, 0)) → w.grownBy W none → (W.setRow H C2.toArray).ownsRow base 111 6 (.slice (some ⟨H, 0, none⟩) (n + 1) G) (n + 1) (xs.take (i * 6) ++ [y0, y1, y2, y3, y4, y5] ++ xs.drop (i * 6)) ∧ w.grownBy (W.setRow H C2.toArray) (some g) from fun W hW hB =>
    ⟨⟨by simp only [List.length_append, List.length_take, List.length_drop, hxl]; simp; omega, .inr ⟨H, G, C2.toArray, rfl, by omega, setRow_heap _ H _ _ _ _ hW, hGn, hGm, by simp [hl2, hRl], by simpa using hR⟩⟩, ⟨hB.os, hB.tape, hB.output, by simp only [World.setRow, Array.size_modify]; exact hB.size, fun k hk _ => (setRow_other W H k _ (by omega)).trans (hB.block k hk (by simp))⟩⟩)
  rw [← hH] at hrz
  have HHH := hid hH
  have hgH : g ≠ H := by omega
  have hvH : vb ≠ H := by omega
  have HG := hid (And.intro hg hvs)
  clear hC1 hC2 hl1 hl2 hR hcell hdl hsz ht hold hkk hik hG hROW hRl hRt hH hg hvs
  unfold maxLen at hGm
  have hci : ¬ (cap = i) := by omega
  have hGi : ¬ (G = i) := by omega
  have hGj : ¬ (G = i + 1) := by omega
  have hz2 : ¬ ((i : Int) = (n : Int)) := by omega
  have hw1 : IntKind.i64.wrap ((i : Int) + 1) = (i : Int) + 1 := by rw [IntKind.wrap_i64]; omega
  have htn : ((i : Int) + 1).toNat = i + 1 := by omega
  have hb1 : (0 : Int) ≤ (i : Int) + 1 := by omega
  have hb2 : (i : Int) + 1 ≤ (n : Int) + 1 := by omega
  have hb3 : (i : Int) ≤ (n : Int) + 1 := by omega
  have hb4 : (i : Int) ≤ (n : Int) := by omega
  have hE0 : (w.drew.alloc (.cells ROW.toArray 111)).heap[H]? = some (.cells ROW.toArray 111 (0, 0)) := by rw [HHH.out]; exact heap_alloc_new w.drew _
  have hE1 : (w.drew.alloc (.cells ROW.toArray 111)).heap[vb]? = some (.cells #[y0, y1, y2, y3, y4, y5] 111 (0, 0)) := (heap_alloc_old w.drew _ (by exact hvl)).trans HG.out.2
  have hE2 : (w.drew.alloc (.cells ROW.toArray 111)).heap[g]? = some (.cells cur 111 (0, 0)) := (heap_alloc_old w.drew _ (by exact hgl)).trans HG.out.1
  have HEE := hid (And.intro hE0 (And.intro hE1 hE2))
  clear hE0 hE1 hE2
  go_enter Tryz.func118, Tryz.ntmps118
  have hcA := fun ty dc => hcpA (w.alloc (.cells ROW.toArray 111)).drew (by exact HEE.out.1) (by exact HEE.out.2.1) ty dc
  go_wp2_with (at_builtin; refine Lib.wpList_append_run _ rfl (.tmp 34) (.tmp 39) 36 3 rfl _ _ rfl rfl _ _ (hrz _) ?_)
  go_region_law ((refine step_copy_runI rfl (.tmp 50) (.tmp 53) 36 36 rfl (.slice (some ⟨H, (i + 1) * 6, none⟩) (n - i) (G - (i + 1))) (.slice (some ⟨g, i * 6, none⟩) (n - i) (cap - i)) (by simp [Act.eval, Act.put]) (by simp [Act.eval, Act.put]) (hcpB _ (by exact setRow_heap (w.drew.alloc (.cells ROW.toArray 111)) H _ _ _ _ HEE.out.1) (by exact (setRow_other (w.drew.alloc (.cells ROW.toArray 111)) H g _ hgH).trans HEE.out.2.2) 3 (G - (i + 1)) (cap - i)) ?_))
  all_goals go_wp2_with fail
  all_goals go_ret
  all_goals
    obtain ⟨hf1', hf2'⟩ := HFIN.out ((w.drew.alloc (.cells ROW.toArray 111)).setRow H C1.toArray) (setRow_heap _ H _ _ _ _ HEE.out.1) ⟨rfl, rfl, rfl, by simp [World.setRow], fun k hk _ => (setRow_other _ H k _ (by have := HHH.out; omega)).trans (heap_alloc_old w.drew _ hk)⟩
    exact ⟨_, rfl, hf1', ⟨hf2'.os, hf2'.tape, hf2'.output, hf2'.size, hf2'.block⟩, .inr (by rw [← HHH.out]; rfl)⟩
/-- Whichever way it goes. -/
theorem insertAt_says {w : World} {base n i : Nat} {v : Value} {xs : List Value} (hown : w.ownsRow base 111 6 v n xs) (hbase : base ≤ w.heap.size) (hn : n ≤ 1048576) (hi : i ≤ n) (vb : Nat) (y0 y1 y2 y3 y4 y5 : Value) (hvs : At w vb 111 #[y0, y1, y2, y3, y4, y5]) (hne : v.ownBlock ≠ some vb)
    (h1 : ∀ u ∈ [y0, y1, y2, y3, y4, y5], u.oneCell' = true) (h1x : ∀ u ∈ xs, u.oneCell' = true) :
    Calls Tryz.prog 118 #[v, .int .i64 i, .slice (some ⟨vb, 0, none⟩) 1 1] w fun e w' => ∃ v', e = .returned v' ∧ w'.ownsRow base 111 6 v' (n + 1) (xs.take (i * 6) ++ [y0, y1, y2, y3, y4, y5] ++ xs.drop (i * 6)) ∧ w.grownBy w' v.ownBlock ∧ (v'.ownBlock = v.ownBlock ∨ v'.ownBlock = some w.heap.size) := by
  by_cases he : i = n
  · subst he
    exact insertAt_end hown hbase hn vb y0 y1 y2 y3 y4 y5 hvs h1
  · have hlt : i < n := by omega
    obtain ⟨hxl, ⟨rfl, h0⟩ | ⟨g, cap, cur, rfl, hbg, hg, hnc, hcm, hcs, ht⟩⟩ := hown
    · omega
    · by_cases hr : n + 1 ≤ cap
      · exact insertAt_room hxl hbg hg hcm hcs ht hn hlt hr vb y0 y1 y2 y3 y4 y5 hvs (by simpa [Value.ownBlock] using hne) h1 h1x
      · exact insertAt_grow hbase hxl hg hnc ht hn hlt (by omega) vb y0 y1 y2 y3 y4 y5 hvs h1 h1x
end Go.Proofs.YtobpidmlgldnmaaGreatDoor

/-
  The program's reader: a dictionary that is being read.
-/
namespace Go.Proofs.YtobpidmlgldnmaaGreatDoor
open Go.RowKit
set_option maxRecDepth 100000

def wEnd2 : ByteArray := ⟨#[62, 62]⟩
/-- What reading a dictionary makes: the fields, an error, where it ends. -/
def rdD (f : Nat → Rd) (s : ByteArray) : Nat → List (ByteArray × V) → Nat → List (ByteArray × V) × Int × Nat
  | 0, _, j => ([], 2, j)
  | n + 1, acc, j =>
    if (endsR s wEnd2 j).1 ≠ 0 then ([], (endsR s wEnd2 j).1, j)
    else if (endsR s wEnd2 j).2.1 then (acc, 0, (endsR s wEnd2 j).2.2)
    else if (rdFd f s (endsR s wEnd2 j).2.2).2.1 ≠ 0 then ([], (rdFd f s (endsR s wEnd2 j).2.2).2.1, j)
    else if (getF (rdFd f s (endsR s wEnd2 j).2.2).1.1 acc).isSome then ([], 3, j)
    else if 300 < acc.length + 1 then ([], 2, j)
    else rdD f s n (rsetF (rdFd f s (endsR s wEnd2 j).2.2).1.1 (rdFd f s (endsR s wEnd2 j).2.2).1.2 acc false) (rdFd f s (endsR s wEnd2 j).2.2).2.2
theorem rdD_step {f : Nat → Rd} {s : ByteArray} {n : Nat} {acc : List (ByteArray × V)} {j : Nat} {x : Int} {y : Bool} {z : Nat} (he : endsR s wEnd2 j = (x, y, z)) :
    rdD f s (n + 1) acc j = if x ≠ 0 then ([], x, j) else if y then (acc, 0, z) else if (rdFd f s z).2.1 ≠ 0 then ([], (rdFd f s z).2.1, j) else if (getF (rdFd f s z).1.1 acc).isSome then ([], 3, j) else if 300 < acc.length + 1 then ([], 2, j) else rdD f s n (rsetF (rdFd f s z).1.1 (rdFd f s z).1.2 acc false) (rdFd f s z).2.2 := by rw [rdD, he]
/-- A name that was read may be one. -/
theorem rdFd_name {f : Nat → Rd} {s : ByteArray} {k : Nat} (h : (rdFd f s k).2.1 = 0) : nmOk (rdFd f s k).1.1 = true := by
  unfold rdFd at h ⊢
  split
  · rename_i h47
    rw [if_pos h47] at h
    cases hr : nameR (wordP s (k + 1)).data.toList with
    | none => rw [hr] at h; exact absurd (show (4 : Int) = 0 from h) (by decide)
    | some b =>
      simp only
      unfold nameR at hr
      cases hl : nameL (wordP s (k + 1)).data.toList with
      | none => rw [hl] at hr; cases hr
      | some c =>
        rw [hl] at hr
        simp only [Option.bind_some] at hr
        split at hr
        · rename_i hm; cases hr; exact hm
        · cases hr
  · rename_i h47
    rw [if_neg h47] at h; exact absurd (show (4 : Int) = 0 from h) (by decide)
theorem nmOk_size {s : ByteArray} (h : nmOk s = true) : s.size ≤ 200 := by
  unfold nmOk at h; simp at h; exact h.1.2
theorem getF_isSome {name : ByteArray} : ∀ {l : List (ByteArray × V)}, (getF name l).isSome = true ↔ ∃ (i : Nat) (q : ByteArray × V), l[i]? = some q ∧ q.1 = name
  | [] => by simp [getF]
  | q :: l => by
    by_cases h : q.1 = name
    · have e : getF name (q :: l) = some q.2 := by
        refine getF_some (i := 0) (q := q) rfl (by rw [h]; simp) (fun j s hj => by omega)
      rw [e]
      exact ⟨fun _ => ⟨0, q, rfl, h⟩, fun _ => rfl⟩
    · have e : getF name (q :: l) = getF name l := by
        have hn : (q.1.toList == name.toList) = false := word_ne h
        rw [getF, hn]; rfl
      rw [e, getF_isSome (l := l)]
      constructor
      · rintro ⟨i, p, hi, hp⟩; exact ⟨i + 1, p, by simpa using hi, hp⟩
      · rintro ⟨i, p, hi, hp⟩
        cases i with
        | zero => simp at hi; subst hi; exact absurd hp h
        | succ i => exact ⟨i, p, by simpa using hi, hp⟩
theorem FoundAt.getF {name : ByteArray} {l : List (ByteArray × V)} {t : Nat} {b : Bool} (h : FoundAt name l t b) (hp : l.Pairwise fun p q => Lt p.1 q.1) : (getF name l).isSome = b := by
  cases hb : b
  · cases hg : (Go.Proofs.YtobpidmlgldnmaaGreatDoor.getF name l).isSome
    · rfl
    · obtain ⟨i, q, hi, hq⟩ := getF_isSome.1 hg
      have h1 : ¬ i < t := fun hl => by have := h.low i q hl hi; rw [hq] at this; exact this.ne rfl
      by_cases h2 : i = t
      · subst h2
        have := h.is.2 ⟨q, hi, hq⟩
        rw [hb] at this; cases this
      · have hlt : t < i := by omega
        have hil := (List.getElem?_eq_some_iff.1 hi).1
        have h3 := rises_at hp hlt (List.getElem?_eq_getElem (show t < l.length by omega)) hi
        rw [hq] at h3
        exact absurd h3 (h.high t _ (Nat.le_refl _) (List.getElem?_eq_getElem (show t < l.length by omega)))
  · obtain ⟨q, hq, hn⟩ := h.is.1 hb
    exact getF_isSome.2 ⟨t, q, hq, hn⟩
/-- Where a name is not there, it is laid where it was looked for. -/
theorem FoundAt.rset {name : ByteArray} {l : List (ByteArray × V)} {t : Nat} (h : FoundAt name l t false) (hp : l.Pairwise fun p q => Lt p.1 q.1) (x : V) : rsetF name x l false = l.take t ++ (name, x) :: l.drop t := by
  have hno : ∀ q ∈ l, q.1 ≠ name := fun q hq e => by
    obtain ⟨i, hi⟩ := List.getElem?_of_mem hq
    have := getF_isSome.2 ⟨i, q, hi, e⟩
    rw [h.getF hp] at this; cases this
  refine rset_new (name := name) (x := x) l t hp hno h.le (fun i q hi hq => (h.low i q hi hq).not) (fun q hq => ?_)
  rcases lt_tri name q.1 with g | g | g
  · exact g
  · exact absurd g.symm (hno q (List.mem_of_getElem? hq))
  · exact absurd g (h.high t q (Nat.le_refl _) hq)
theorem FoundAt.rises {name : ByteArray} {l : List (ByteArray × V)} {t : Nat} (h : FoundAt name l t false) (hp : l.Pairwise fun p q => Lt p.1 q.1) (x : V) : (l.take t ++ (name, x) :: l.drop t).Pairwise fun p q => Lt p.1 q.1 := by
  have hno : ∀ q ∈ l, q.1 ≠ name := fun q hq e => by
    obtain ⟨i, hi⟩ := List.getElem?_of_mem hq
    have := getF_isSome.2 ⟨i, q, hi, e⟩
    rw [h.getF hp] at this; cases this
  have hp2 := hp
  rw [← List.take_append_drop t l, List.pairwise_append] at hp2
  obtain ⟨h1, h2, h3⟩ := hp2
  have low : ∀ q ∈ l.take t, Lt q.1 name := fun q hq => by
    obtain ⟨i, hi⟩ := List.getElem?_of_mem hq
    rw [List.getElem?_take] at hi
    split at hi
    · exact h.low i q (by assumption) hi
    · cases hi
  have high : ∀ q ∈ l.drop t, Lt name q.1 := fun q hq => by
    obtain ⟨i, hi⟩ := List.getElem?_of_mem hq
    rw [List.getElem?_drop] at hi
    rcases lt_tri name q.1 with g | g | g
    · exact g
    · exact absurd g.symm (hno q (List.mem_of_getElem? hi))
    · exact absurd g (h.high _ q (by omega) hi)
  rw [List.pairwise_append]
  refine ⟨h1, List.pairwise_cons.2 ⟨fun q hq => high q hq, h2⟩, fun p hp' q hq => ?_⟩
  rcases List.mem_cons.1 hq with rfl | hq
  · exact low p hp'
  · exact h3 p hp' q hq
/-- A dictionary that is being read: the answer's block, the dictionary's block, its row, the fields. -/
structure Dicted (P : Nat) (w wr : World) (s : ByteArray) (j d : Nat) (t : Value) (O : List FC) : Prop where
  mov : Moved P w wr s j
  lt : P < w.heap.size
  box : At wr w.heap.size 38 (vc 0 0 ⟨#[]⟩)
  vbox : At wr (w.heap.size + 1) 38 #[.int .i64 6, .int .i64 0, .string ⟨#[]⟩, .slice none 0 0, t]
  own : wr.ownsRow (w.heap.size + 2) 111 6 t O.length (flatO O)
  reps : ∀ o ∈ O, o.1.1.size ≤ 200 ∧ RepIn (Room (w.heap.size + 2) wr t) d wr o.1.2 o.2
theorem Dicted.moved {P : Nat} {w a b : World} {s : ByteArray} {j i d : Nat} {t : Value} {O : List FC} (h : Dicted P w a s j d t O) (m : Moved P a b s i) : Dicted P w b s i d t O := by
  have hP := h.lt
  refine ⟨h.mov.trans m, hP, m.keep.at h.box (by omega), m.keep.at h.vbox (by omega), ?_, fun o ho => ⟨(h.reps o ho).1, ?_⟩⟩
  · refine World.ownsRow.kept h.own (row := some P) ⟨m.keep.os, m.keep.tape, m.keep.output, m.keep.size, fun k hk hne => m.keep.block k hk (fun e => hne (by rw [e]))⟩ ?_
    cases hv : t.ownBlock with
    | none => exact .inl rfl
    | some g => exact .inr (fun e => by cases e; have := (h.own.lt P hv).1; omega)
  · refine ((h.reps o ho).2.agree m.keep.size fun b hb => m.keep.block b hb.2.1 (by have := hb.1; omega)).mono fun b hb => ⟨hb.1, Nat.lt_of_lt_of_le hb.2.1 m.keep.size, hb.2.2⟩
theorem Dicted.below {P : Nat} {w a b : World} {s : ByteArray} {j d : Nat} {t : Value} {O : List FC} (h : Dicted P w a s j d t O) (hb : Below a.heap.size a b) : Dicted P w b s j d t O :=
  h.moved ⟨.of hb, At.later h.mov.at_ hb⟩
theorem Dicted.env {m : Int} {P : Nat} {w a : World} {s : ByteArray} {j d : Nat} {t : Value} {O : List FC} (h : Dicted P w a s j d t O) (hE : Env m P w) : Env m P a := hE.moved h.mov h.lt
theorem Dicted.size {P : Nat} {w a : World} {s : ByteArray} {j d : Nat} {t : Value} {O : List FC} (h : Dicted P w a s j d t O) : w.heap.size + 2 ≤ a.heap.size := At.lt h.vbox
theorem Dicted.ok {P : Nat} {w a : World} {s : ByteArray} {j d : Nat} {t : Value} {O : List FC} (h : Dicted P w a s j d t O) : ∀ o ∈ O, o.ok d a :=
  fun o ho => ⟨by have := (h.reps o ho).1; unfold maxLen; omega, (h.reps o ho).2.now⟩
theorem Dicted.slice {P : Nat} {w a : World} {s : ByteArray} {j d : Nat} {t : Value} {O : List FC} (h : Dicted P w a s j d t O) : ∃ af cf, t = .slice af O.length cf ∧ FAt d a (O.map (·.1)) af :=
  own_fields h.own h.ok (Below.refl _ _)
theorem Dicted.cells {P : Nat} {w a : World} {s : ByteArray} {j d : Nat} {t : Value} {O : List FC} (h : Dicted P w a s j d t O) :
    (a.cell? ⟨w.heap.size + 1, 0, none⟩ = some (.int .i64 6) ∧ a.cell? ⟨w.heap.size + 1, 1, none⟩ = some (.int .i64 0) ∧ a.cell? ⟨w.heap.size + 1, 2, none⟩ = some (.string ⟨#[]⟩) ∧ a.cell? ⟨w.heap.size + 1, 3, none⟩ = some (.slice none 0 0) ∧ a.cell? ⟨w.heap.size + 1, 4, none⟩ = some t) ∧ a.frozen? ⟨w.heap.size + 1, 4, none⟩ = false :=
  ⟨⟨At.cell h.vbox 0, At.cell h.vbox 1, At.cell h.vbox 2, At.cell h.vbox 3, At.cell h.vbox 4⟩, At.free h.vbox 4⟩
/-- One more field: the row grew, the dictionary's block holds the row anew. -/
theorem Dicted.grow {P : Nat} {w b w2 : World} {s : ByteArray} {i d : Nat} {t t' : Value} {O O' : List FC} {o : FC} (h : Dicted P w b s i d t O)
    (ho : o.1.1.size ≤ 200 ∧ RepIn (Room (w.heap.size + 2) b t) d b o.1.2 o.2) (hO : ∀ p ∈ O', p ∈ O ∨ p = o) (hown : w2.ownsRow (w.heap.size + 2) 111 6 t' O'.length (flatO O')) (hg : b.grownBy w2 t.ownBlock)
    (hat : t'.ownBlock = t.ownBlock ∨ t'.ownBlock = some b.heap.size) : Dicted P w (w2.setCell ⟨w.heap.size + 1, 4, none⟩ t') s i d t' O' := by
  have hP := h.lt
  have hbs := h.size
  have hsz := hg.size
  have same : ∀ k, k < b.heap.size → some k ≠ t.ownBlock → w2.heap[k]? = b.heap[k]? := fun k hk hne => hg.block k hk hne
  have low : ∀ k, k < w.heap.size + 2 → some k ≠ t.ownBlock := fun k hk e => by
    have := (h.own.lt k e.symm).1; omega
  have hW : Moved P w w2 s i := by
    refine ⟨⟨hg.os.trans h.mov.keep.os, hg.tape.trans h.mov.keep.tape, hg.output.trans h.mov.keep.output, by omega, fun k hk hne => ?_⟩, ?_⟩
    · rw [same k (by omega) (low k (by omega))]; exact h.mov.keep.block k hk hne
    · exact (same P (by omega) (low P (by omega))).trans h.mov.at_
  have sz : (w2.setCell ⟨w.heap.size + 1, 4, none⟩ t').heap.size = w2.heap.size := by simp [World.setCell]
  have oth : ∀ k, k ≠ w.heap.size + 1 → (w2.setCell ⟨w.heap.size + 1, 4, none⟩ t').heap[k]? = w2.heap[k]? := fun k hk => Below.heap_setCell _ _ _ _ hk
  refine ⟨hW.setNew (by omega) hP _ _, hP, ?_, ?_, ?_, ?_⟩
  · exact (oth _ (by omega)).trans ((same _ (by omega) (low _ (by omega))).trans h.box)
  · have hv : At w2 (w.heap.size + 1) 38 #[.int .i64 6, .int .i64 0, .string ⟨#[]⟩, .slice none 0 0, t] := (same _ (by omega) (low _ (by omega))).trans h.vbox
    exact heap_setCell_same w2 _ 4 _ _ t' hv
  · refine World.ownsRow.kept hown (row := some (w.heap.size + 1)) ⟨rfl, rfl, rfl, by rw [sz]; exact Nat.le_refl _, fun k hk hne => oth k (fun e => hne (by rw [e]))⟩ ?_
    cases hv : t'.ownBlock with
    | none => exact .inl rfl
    | some g => exact .inr (fun e => by cases e; have := (hown.lt _ hv).1; omega)
  · intro p hp
    have new : ∀ k, k < b.heap.size → some k ≠ t.ownBlock → some k ≠ t'.ownBlock := fun k hk hne => by
      rcases hat with e | e
      · rw [e]; exact hne
      · rw [e]; intro e'; injection e' with e'; omega
    have hq : p.1.1.size ≤ 200 ∧ RepIn (Room (w.heap.size + 2) b t) d b p.1.2 p.2 := by
      rcases hO p hp with h1 | rfl
      · exact h.reps p h1
      · exact ho
    refine ⟨hq.1, (hq.2.agree (by rw [sz]; omega) fun k hk => ?_).mono fun k hk => ⟨hk.1, by rw [sz]; have := hk.2.1; omega, new k hk.2.1 hk.2.2⟩⟩
    rw [oth k (by have := hk.1; omega)]; exact same k hk.2.1 hk.2.2
/-- A value that was read into new blocks. -/
theorem Dicted.fresh {P : Nat} {w a b b3 : World} {s : ByteArray} {j d : Nat} {t : Value} {O : List FC} {x : V} {c : List Value} (h : Dicted P w a s j d t O) (hb3 : Below b.heap.size b b3) (hx : RepIn (fun g => a.heap.size ≤ g ∧ g < b.heap.size) d b x c) :
    RepIn (Room (w.heap.size + 2) b3 t) d b3 x c := by
  have has := h.size
  refine (hx.agree hb3.size fun k hk => hb3.block k hk.2).mono fun k hk => ⟨by have := hk.1; omega, Nat.lt_of_lt_of_le hk.2 hb3.size, fun e => ?_⟩
  have := (h.own.lt k e.symm).2
  have := hk.1
  omega
theorem repIn_dict {S T : Nat → Prop} {d base : Nat} {w : World} {t : Value} {O : List FC} (h : w.ownsRow base 111 6 t O.length (flatO O)) (hk : ∀ o ∈ O, o.1.1.size ≤ 200 ∧ RepIn S d w o.1.2 o.2) (hl : O.length ≤ 1000)
    (hS : ∀ b, S b → T b) (hT : ∀ g, t.ownBlock = some g → T g) : RepIn T (d + 1) w ⟨6, 0, eB, [], O.map (·.1)⟩ [.int .i64 6, .int .i64 0, .string eB, .slice none 0 0, t] := by
  intro w' hs hb
  have hok : ∀ o ∈ O, o.ok d w := fun o ho => ⟨by have := (hk o ho).1; unfold maxLen; omega, (hk o ho).2.now⟩
  rcases h.2 with ⟨rfl, h0⟩ | ⟨g, cap, cur, rfl, _, hg, _⟩
  · have : O = [] := List.eq_nil_of_length_eq_zero h0
    subst this
    exact ⟨none, none, 0, 0, rfl, ⟨Nat.zero_le _, by simp [maxLen], by simp [maxLen]⟩, fun i x h => by simp at h, fun i q h => by simp at h⟩
  · refine ⟨none, some ⟨g, 0, none⟩, 0, cap, by simp, ⟨Nat.zero_le _, by simp [maxLen], by simp [maxLen]; omega⟩, fun i x h => by simp at h, fun i q hq => ?_⟩
    have hq' : (O.map (·.1))[i]? = some q := hq
    rw [List.getElem?_map, Option.map_eq_some_iff] at hq'
    obtain ⟨o, ho, rfl⟩ := hq'
    have hi := (List.getElem?_eq_some_iff.1 ho).1
    have hgb := hb g (hT g rfl)
    have ok := hok o (List.mem_of_getElem? ho)
    have cell : ∀ j, j < 6 → w'.cell? ⟨g, i * 6 + j, none⟩ = o.cells[j]? := fun j hj => by
      rw [cell_block hgb, h.cellAt _ (by omega), flatO_get hok ho j hj]
    refine ⟨g, 0, o.2, rfl, Nat.lt_of_lt_of_le (Array.getElem?_eq_some_iff.1 hg).1 hs, ok.1, ?_, fun j c hc => ?_, (hk o (List.mem_of_getElem? ho)).2 w' hs fun b hb' => hb b (hS b hb')⟩
    · rw [Nat.zero_add]; exact cell 0 (by omega)
    · have hj := (List.getElem?_eq_some_iff.1 hc).1
      rw [rep_len ok.2] at hj
      have := cell (1 + j) (by omega)
      rw [Nat.zero_add, Nat.add_assoc, this, Nat.add_comm 1 j]
      simpa [FC.cells] using hc
theorem Dicted.rep {P : Nat} {w a : World} {s : ByteArray} {j d : Nat} {t : Value} {O : List FC} (h : Dicted P w a s j d t O) (hl : O.length ≤ 1000) :
    RepIn (fun b => w.heap.size + 2 ≤ b ∧ b < a.heap.size) (d + 1) a ⟨6, 0, eB, [], O.map (·.1)⟩ [.int .i64 6, .int .i64 0, .string eB, .slice none 0 0, t] :=
  repIn_dict h.own h.reps hl (fun _ hb => ⟨hb.1, hb.2.1⟩) (fun g hg => h.own.lt g hg)
/-- The answer's block is written. -/
theorem Dicted.fill {P : Nat} {w a : World} {s : ByteArray} {j d : Nat} {t : Value} {O : List FC} (h : Dicted P w a s j d t O) (hl : O.length ≤ 1000) (v0 v1 v2 v3 v4 : Value) {wf : World} (hf : wf = set5 a w.heap.size v0 v1 v2 v3 v4) :
    Moved P w wf s j ∧ At wf w.heap.size 38 #[v0, v1, v2, v3, v4] ∧ RepIn (fun b => w.heap.size ≤ b ∧ b < wf.heap.size) (d + 1) wf ⟨6, 0, eB, [], O.map (·.1)⟩ [.int .i64 6, .int .i64 0, .string eB, .slice none 0 0, t] := by
  subst hf
  refine ⟨h.mov.set5 (Nat.le_refl _) h.lt _ _ _ _ _, At.five h.box _ _ _ _ _, ?_⟩
  refine ((h.rep hl).agree (by rw [set5_size]; exact Nat.le_refl _) fun b hb => set5_other _ _ _ _ _ _ _ (by have := hb.1; omega)).mono fun b hb => ⟨by have := hb.1; omega, by rw [set5_size]; exact hb.2⟩
theorem flatO_takeL : ∀ {O : List FC} (i : Nat), (∀ o ∈ O, o.cells.length = 6) → (flatO O).take (i * 6) = flatO (O.take i)
  | [], i, _ => by simp [flatO]
  | o :: O, 0, _ => by simp [flatO]
  | o :: O, i + 1, h => by
    have h1 := h o (by simp)
    have ih := flatO_takeL (O := O) i (fun p hp => h p (by simp [hp]))
    rw [List.take_succ_cons, show flatO (o :: O) = o.cells ++ flatO O from by simp [flatO], show flatO (o :: O.take i) = o.cells ++ flatO (O.take i) from by simp [flatO], ← ih, List.take_append, h1, List.take_of_length_le (by omega), show (i + 1) * 6 - 6 = i * 6 by omega]
theorem flatO_dropL : ∀ {O : List FC} (i : Nat), (∀ o ∈ O, o.cells.length = 6) → (flatO O).drop (i * 6) = flatO (O.drop i)
  | [], i, _ => by simp [flatO]
  | o :: O, 0, _ => by simp [flatO]
  | o :: O, i + 1, h => by
    have h1 := h o (by simp)
    have ih := flatO_dropL (O := O) i (fun p hp => h p (by simp [hp]))
    rw [List.drop_succ_cons, show flatO (o :: O) = o.cells ++ flatO O from by simp [flatO], ← ih, List.drop_append, h1, List.drop_eq_nil_of_le (by omega), List.nil_append, show (i + 1) * 6 - 6 = i * 6 by omega]
end Go.Proofs.YtobpidmlgldnmaaGreatDoor
