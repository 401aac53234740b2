/-
  Contracts of the least box round points, of the program and of the document's answer.
-/
import Derived.Test.YtkechdflcmgciaaDoorMa
import Derived.Test.YtkechdflcmgciaaDoorMh
import Derived.Deep.QuietTactic
import Derived.BigQuiet
import Derived.BigRegion
import Derived.Deep.RegionWith
namespace Go.Proofs.YtkechdflcmgciaaDoor
open Go.RowKit
set_option maxRecDepth 100000

/-- Points in memory. -/
def PtsAt (w : World) (b off : Nat) (ps : List (Int × Int)) : Prop := b < w.heap.size ∧ ∀ k, k < ps.length → w.cell? ⟨b, off + k * 2, none⟩ = some (.int .i64 (ps.getD k (0, 0)).1) ∧ w.cell? ⟨b, off + k * 2 + 1, none⟩ = some (.int .i64 (ps.getD k (0, 0)).2)
theorem PtsAt.later {w w' : World} {b off : Nat} {ps : List (Int × Int)} (h : PtsAt w b off ps) (hb : Below w.heap.size w w') : PtsAt w' b off ps :=
  ⟨Nat.lt_of_lt_of_le h.1 hb.size, fun k hk => ⟨(hb.cell (p := ⟨b, _, none⟩) h.1).trans (h.2 k hk).1, (hb.cell (p := ⟨b, _, none⟩) h.1).trans (h.2 k hk).2⟩⟩

/-- As cmp.Compare. -/
def cmpI (x u : Int) : Int := if x < u then -1 else if u < x then 1 else 0
theorem cmpI_neg {x u : Int} : cmpI x u < 0 ↔ x < u := by unfold cmpI; split <;> (try split) <;> omega
theorem cmpI_pos {x u : Int} : 0 < cmpI x u ↔ u < x := by unfold cmpI; split <;> (try split) <;> omega
set_option maxHeartbeats 400000 in
theorem byX_any (x y u v : Int) (w : World) :
    Calls Tryd.prog 57 #[.agg #[.int .i64 x, .int .i64 y], .agg #[.int .i64 u, .int .i64 v]] w fun e w' => e = .returned (.int .i64 (cmpI x u)) ∧ Below w.heap.size w w' := by
  unfold cmpI
  by_cases h1 : x < u
  · rw [if_pos h1]
    go_enter Tryd.func57, Tryd.ntmps57
    go_wp2
    go_ret
    exact ⟨rfl, by go_grown⟩
  · rw [if_neg h1]
    by_cases h2 : u < x
    · rw [if_pos h2]
      go_enter Tryd.func57, Tryd.ntmps57
      go_wp2
      go_ret
      exact ⟨rfl, by go_grown⟩
    · rw [if_neg h2]
      go_enter Tryd.func57, Tryd.ntmps57
      go_wp2
      go_ret
      exact ⟨rfl, by go_grown⟩

set_option maxHeartbeats 400000 in
theorem byY_any (x y u v : Int) (w : World) :
    Calls Tryd.prog 59 #[.agg #[.int .i64 x, .int .i64 y], .agg #[.int .i64 u, .int .i64 v]] w fun e w' => e = .returned (.int .i64 (cmpI y v)) ∧ Below w.heap.size w w' := by
  unfold cmpI
  by_cases h1 : y < v
  · rw [if_pos h1]
    go_enter Tryd.func59, Tryd.ntmps59
    go_wp2
    go_ret
    exact ⟨rfl, by go_grown⟩
  · rw [if_neg h1]
    by_cases h2 : v < y
    · rw [if_pos h2]
      go_enter Tryd.func59, Tryd.ntmps59
      go_wp2
      go_ret
      exact ⟨rfl, by go_grown⟩
    · rw [if_neg h2]
      go_enter Tryd.func59, Tryd.ntmps59
      go_wp2
      go_ret
      exact ⟨rfl, by go_grown⟩

/-- The least x of points; 0 without points. -/
def minX : List (Int × Int) → Int
  | [] => 0
  | p :: l => l.foldl (fun a q => min a q.1) p.1
theorem minX_snoc (l : List (Int × Int)) (q : Int × Int) (h : l ≠ []) : minX (l ++ [q]) = min (minX l) q.1 := by
  cases l with
  | nil => exact absurd rfl h
  | cons p l => simp [minX, List.foldl_append]
/-- The least y of points; 0 without points. -/
def minY : List (Int × Int) → Int
  | [] => 0
  | p :: l => l.foldl (fun a q => min a q.2) p.2
theorem minY_snoc (l : List (Int × Int)) (q : Int × Int) (h : l ≠ []) : minY (l ++ [q]) = min (minY l) q.2 := by
  cases l with
  | nil => exact absurd rfl h
  | cons p l => simp [minY, List.foldl_append]
/-- The greatest x of points; 0 without points. -/
def maxX : List (Int × Int) → Int
  | [] => 0
  | p :: l => l.foldl (fun a q => max a q.1) p.1
theorem maxX_snoc (l : List (Int × Int)) (q : Int × Int) (h : l ≠ []) : maxX (l ++ [q]) = max (maxX l) q.1 := by
  cases l with
  | nil => exact absurd rfl h
  | cons p l => simp [maxX, List.foldl_append]
/-- The greatest y of points; 0 without points. -/
def maxY : List (Int × Int) → Int
  | [] => 0
  | p :: l => l.foldl (fun a q => max a q.2) p.2
theorem maxY_snoc (l : List (Int × Int)) (q : Int × Int) (h : l ≠ []) : maxY (l ++ [q]) = max (maxY l) q.2 := by
  cases l with
  | nil => exact absurd rfl h
  | cons p l => simp [maxY, List.foldl_append]
theorem take_pt (ps : List (Int × Int)) (k : Nat) (h : k < ps.length) : ps.take (k + 1) = ps.take k ++ [ps.getD k (0, 0)] := by
  rw [List.take_succ_eq_append_getElem h]; simp [List.getD, h]

theorem take_ne {ps : List (Int × Int)} {k n : Nat} (h1 : 1 ≤ k) (hlt : k < n) (hn : ps.length = n) : ps.take k ≠ [] := by
  intro h; rcases List.take_eq_nil_iff.1 h with h | h
  · omega
  · subst h; simp at hn; omega
set_option maxHeartbeats 2000000 in
theorem minFuncX (b off n c : Nat) (ps : List (Int × Int)) (w : World) (hn : ps.length = n) (h1 : 1 ≤ n) (h2 : n ≤ 1000) (hp : PtsAt w b off ps) :
    Calls Tryd.prog 60 #[.slice (some ⟨b, off, none⟩) n c, .func (.func 57) #[] #[]] w fun e w' => (∃ y, e = .returned (.agg #[.int .i64 (minX ps), .int .i64 y])) ∧ Below w.heap.size w w' := by
  obtain ⟨c0, c1⟩ := hp.2 0 (by omega)
  rw [Nat.zero_mul, Nat.add_zero] at c0 c1
  have hb0 := hp.1
  have HP := hid hp
  have hx0 : minX (ps.take 1) = (ps.getD 0 (0, 0)).1 := by
    rw [show ps.take 1 = ps.take 0 ++ [ps.getD 0 (0, 0)] from take_pt ps 0 (by omega)]; rfl
  have HX := hid hx0
  generalize (ps.getD 0 (0, 0)).1 = x0 at *
  generalize (ps.getD 0 (0, 0)).2 = y0 at *
  clear hp hx0
  go_enter Tryd.func60, Tryd.ntmps60
  go_wp2
  go_loopw [6] (fun i wr => ∃ (k : Nat) (x y : Int), 1 ≤ k ∧ k ≤ n ∧ i = .int .i64 k ∧ minX (ps.take k) = x ∧ Holds wr w.heap.size #[.int .i64 0, .int .i64 0] ∧ Holds wr (w.heap.size + 1) #[.int .i64 x, .int .i64 y] ∧ Below w.heap.size w wr) (fun i _ => n - (intOf i).toNat)
  case atStart => exact ⟨1, x0, y0, Nat.le_refl _, h1, rfl, HX.out, (Holds.new _ _ _).alloc _, (Holds.new _ _ _).at (by simp), by go_grown⟩
  case round =>
    obtain ⟨k, x, y, hk1, hk, rfl, hmin, hR, hM, hB⟩ := hrel
    have HPr := HP.out.later hB
    by_cases hlt : k < n
    · have hlt' : (k : Int) < n := by omega
      obtain ⟨d0, d1⟩ := HPr.2 k (by omega)
      have HT := hid (take_pt ps k (by omega))
      have hbr := HPr.1
      have HQ := hid HPr
      obtain ⟨mz, mc, mf⟩ := id hM
      have HM := hid hmin
      have HH := hid hM
      have HR := hid hR
      generalize ps.getD k (0, 0) = q at *
      obtain ⟨u, v⟩ := q
      dsimp only at d0 d1
      clear HPr hM hR hmin
      by_cases hc : u < x
      · have hneg : cmpI u x < 0 := cmpI_neg.2 hc
        go_wp2
        go_region_with (go_at_call 57; refine (byX_any _ _ _ _ _).mono ?_; rintro e w1 ⟨rfl, hb1⟩)
        all_goals
          have hb2 := below_undrew hb1
          have Hm := HH.out.later hb2
          have Hr := HR.out.later hb2
          have g0 := (hb2.cell (p := ⟨b, off + k * 2, none⟩) hbr).trans d0
          have g1 := (hb2.cell (p := ⟨b, off + k * 2 + 1, none⟩) hbr).trans d1
          obtain ⟨mz1, mc1, mf1⟩ := id Hm
          clear mz mc mf hb1 d0 d1
          go_wp2
          go_roundw
          case rel => exact ⟨k + 1, u, v, by omega, by omega, by go_num, by rw [HT.out, minX_snoc _ _ (take_ne hk1 hlt hn), HM.out]; simp; omega, (Hr.other (by omega)).other (by omega), Hm.set2, ((hB.trans (hb2.mono hB.size)).setCell (by simp) _).setCell (by simp) _⟩
          case measure => simp [intOf]; omega
      · have hneg : ¬ cmpI u x < 0 := fun h => hc (cmpI_neg.1 h)
        go_wp2
        go_region_with (go_at_call 57; refine (byX_any _ _ _ _ _).mono ?_; rintro e w1 ⟨rfl, hb1⟩)
        all_goals
          have hb2 := below_undrew hb1
          go_wp2
          go_roundw
          case rel => exact ⟨k + 1, x, y, by omega, by omega, by go_num, by rw [HT.out, minX_snoc _ _ (take_ne hk1 hlt hn), HM.out]; simp; omega, HR.out.later hb2, HH.out.later hb2, hB.trans (hb2.mono hB.size)⟩
          case measure => simp [intOf]; omega
    · have HM := hid hmin
      have HR := hid hR
      obtain ⟨mz, mc, mf⟩ := id hM
      obtain ⟨rz, rc, rf⟩ := id hR
      clear HPr hmin hM hR
      go_wp2
      refine bodyPost_ret (v := .agg #[.int .i64 x, .int .i64 y]) (by simp [results, Tryd.results60, go_sem, rc]) rfl ⟨⟨y, ?_⟩, ?_⟩
      · have := HM.out
        rw [List.take_of_length_le (by omega)] at this
        rw [this]
      · exact (hB.setCell (by simp) _).setCell (by simp) _
end Go.Proofs.YtkechdflcmgciaaDoor
