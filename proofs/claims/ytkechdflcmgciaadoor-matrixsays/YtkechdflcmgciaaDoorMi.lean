/-
  A struct of six numbers, a list of points, as arguments: what they are in memory.
-/
import Derived.Test.YtkechdflcmgciaaDoorMc
import Derived.ProofKit
import Derived.OpenShut
import Derived.Deep.SlicePairs
import Derived.Lib.SmallJoins
namespace Go.Proofs.YtkechdflcmgciaaDoor
open Go.RowKit Go.WideShapes Go.ChangeShapes Go.Deep Go.Joins
set_option maxRecDepth 100000

theorem array6 {α : Type} {cs : Array α} (h : cs.size = 6) : ∃ c0 c1 c2 c3 c4 c5, cs = #[c0, c1, c2, c3, c4, c5] := by
  obtain ⟨l⟩ := cs
  match l, h with
  | [c0, c1, c2, c3, c4, c5], _ => exact ⟨c0, c1, c2, c3, c4, c5, rfl⟩
theorem cellsM : Tryd.prog.cellsOf 44 = 6 := by kernel_rfl
theorem cellsP : Tryd.prog.cellsOf 55 = 2 := by kernel_rfl
theorem cellsI : Tryd.prog.cellsOf 3 = 1 := by kernel_rfl

theorem int_of_trod {H : Type} {enc : TypeId × Value → H} {W : World} {n : Nat} {c : Value} {y : DataW H × List MemPlace} (h : DataW.trod enc Tryd.prog W 0 (fun _ => true) true n 3 [c] = some y) : ∃ z : Int, c = .int .i64 z := by
  obtain ⟨z, e0, _⟩ := DataW.trod_int Tryd.underlying3 h
  simp at e0
  exact ⟨z, e0⟩
theorem open_matrix {H : Type} {enc : TypeId × Value → H} {W : World} {base : Nat} {v : Value} {d : DataW H} {p : List MemPlace}
    (hv : Value.okWide Tryd.prog W .any base 44 v) (h : DataW.Trod enc Tryd.prog W 0 (fun _ => true) true 44 v d p) :
    ∃ a b c d e f : Int, v = .agg #[.int .i64 a, .int .i64 b, .int .i64 c, .int .i64 d, .int .i64 e, .int .i64 f] := by
  obtain ⟨cs, rfl, hsz⟩ := okWide_struct Tryd.underlying44 hv
  obtain ⟨c0, c1, c2, c3, c4, c5, rfl⟩ := array6 (hsz.trans cellsM)
  obtain ⟨fuel, hf⟩ := h
  obtain ⟨xs, n, _, _, hl, hlen, hx⟩ := DataW.trod_struct Tryd.underlying44 hf
  have hxl : xs.length = 6 := hlen
  have get : ∀ (i : Nat) (c : Value), i < 6 → DataW.trod enc Tryd.prog W 0 (fun _ => true) true n 3 [c] = xs[i]? → ∃ z : Int, c = .int .i64 z := fun i c hi h => by
    rw [List.getElem?_eq_getElem (by omega)] at h
    exact int_of_trod h
  have g0 := hx 0 _ rfl
  have g1 := hx 1 _ rfl
  have g2 := hx 2 _ rfl
  have g3 := hx 3 _ rfl
  have g4 := hx 4 _ rfl
  have g5 := hx 5 _ rfl
  simp only [Value.cells] at g0 g1 g2 g3 g4 g5
  obtain ⟨a, rfl⟩ := get 0 c0 (by omega) g0
  obtain ⟨b, rfl⟩ := get 1 c1 (by omega) g1
  obtain ⟨c, rfl⟩ := get 2 c2 (by omega) g2
  obtain ⟨d', rfl⟩ := get 3 c3 (by omega) g3
  obtain ⟨e, rfl⟩ := get 4 c4 (by omega) g4
  obtain ⟨f, rfl⟩ := get 5 c5 (by omega) g5
  exact ⟨a, b, c, d', e, f, rfl⟩

/-- A list of points: none, or cells in memory that hold numbers. -/
theorem open_points {H : Type} {enc : TypeId × Value → H} {W : World} {base : Nat} {v : Value} {d : DataW H} {p : List MemPlace}
    (hv : Value.okWide Tryd.prog W .any base 45 v) (h : DataW.Trod enc Tryd.prog W 0 (fun _ => true) true 45 v d p) :
    ∃ a n cp, v = .slice a n cp ∧ n ≤ maxLen ∧ (1 ≤ n → ∃ b off ps, a = some ⟨b, off, none⟩ ∧ ps.length = n ∧ PtsAt W b off ps) := by
  obtain ⟨a, n, cp, rfl⟩ := okWide_slice Tryd.underlying45 hv
  obtain ⟨fuel, hf⟩ := h
  rcases open_slice_pairs Tryd.underlying45 Tryd.underlying55 cellsP rfl rfl cellsI cellsI hf with ⟨hcs, hx⟩ | ⟨ad, len, cap, m, k, V0, V1, D0, D1, P0, P1, hcs, _, hl, hm, hmm, hx, hcell⟩
  · simp [Value.cells] at hcs
    obtain ⟨rfl, rfl, rfl⟩ := hcs
    exact ⟨none, 0, 0, rfl, by unfold maxLen; omega, fun h => by omega⟩
  · simp [Value.cells] at hcs
    obtain ⟨rfl, rfl, rfl⟩ := hcs
    refine ⟨some ad, n, cp, rfl, Nat.le_trans hl hm, fun h1 => ?_⟩
    have hm' : m = cp := by simpa using hmm
    subst hm'
    have hz : ∀ i, i < n → ∃ q : Int × Int, W.cell? (ad.add (i * 2)) = some (.int .i64 q.1) ∧ W.cell? (ad.add (i * 2 + 1)) = some (.int .i64 q.2) := fun i hi => by
      obtain ⟨u0, u1, t0, t1⟩ := hcell i (by omega)
      obtain ⟨x, ex⟩ := int_of_trod t0
      obtain ⟨y, ey⟩ := int_of_trod t1
      exact ⟨(x, y), by rw [u0, ex], by rw [u1, ey]⟩
    obtain ⟨b, off, spot⟩ := ad
    have hspot : spot = none := by
      obtain ⟨q, hq, _⟩ := hz 0 h1
      simpa [Addr.add] using World.cell?_spot hq
    subst hspot
    have hz2 : ∀ i : Nat, ∃ q : Int × Int, i < n → W.cell? ⟨b, off + i * 2, none⟩ = some (.int .i64 q.1) ∧ W.cell? ⟨b, off + i * 2 + 1, none⟩ = some (.int .i64 q.2) := fun i => by
      by_cases hi : i < n
      · obtain ⟨q, q1, q2⟩ := hz i hi
        rw [Go.WideShapes.add_plain] at q1 q2
        exact ⟨q, fun _ => ⟨q1, by rw [← q2]; congr 2⟩⟩
      · exact ⟨(0, 0), fun h => absurd h hi⟩
    obtain ⟨g, hg⟩ := Classical.axiomOfChoice hz2
    refine ⟨b, off, (List.range n).map g, rfl, by simp, ?_, fun k hk => ?_⟩
    · have := (hg 0 h1).1
      exact block_lt_of_cell this
    · have hk' : k < n := by simpa using hk
      have e : ((List.range n).map g).getD k (0, 0) = g k := by simp [List.getD, hk']
      rw [e]; exact hg k hk'
end Go.Proofs.YtkechdflcmgciaaDoor
