/-
  The closed fact; a value that lies in two places at once; the law's own parts.
-/
import Derived.Test.YtidillbpoklnjaaDoorVx
import Derived.Test.YtidillbpoklnjaaDoorVb
namespace Go.Proofs.YtidillbpoklnjaaDoor
open Go.RowKit
set_option maxRecDepth 100000

/-- The value of the closed fact. -/
def factV : V := ⟨5, 0, ⟨#[]⟩, [⟨4, 0, ⟨#[97, 32, 98]⟩, [], []⟩, ⟨3, 0, ⟨#[40, 120]⟩, [], []⟩], []⟩
theorem fact_txt : factV.txt = [91, 47, 97, 35, 50, 48, 98, 32, 40, 92, 40, 120, 41, 93] := by
  simp [factV, V.txt, sepsL]
  decide
theorem fact_shp : factV.Shp ∧ factV.cnt ≤ 300 ∧ faultV factV = 0 := by
  have hs : factV.Shp := by
    rw [shp_eq]
    refine ⟨.inr (.inr (.inr (.inr (.inr (.inl ⟨rfl, rfl, rfl, rfl⟩))))), ?_, ?_⟩
    · rw [shpL_iff]
      intro i x hx
      match i, hx with
      | 0, hx =>
        simp [factV] at hx; subst hx
        rw [shp_eq]
        exact ⟨.inr (.inr (.inr (.inr (.inl ⟨rfl, rfl, by decide, rfl, rfl⟩)))), by rw [shpL_iff]; simp, by rw [shpF_iff]; simp⟩
      | 1, hx =>
        simp [factV] at hx; subst hx
        rw [shp_eq]
        exact ⟨.inr (.inr (.inr (.inl ⟨rfl, rfl, by decide, rfl, rfl⟩))), by rw [shpL_iff]; simp, by rw [shpF_iff]; simp⟩
      | i + 2, hx => simp [factV] at hx
    · rw [shpF_iff]; simp [factV]
  have hc : factV.cnt = 3 := by simp [factV, V.cnt, cntL, cntF]
  have hd : factV.dep = 2 := by simp [factV, V.dep, depL, depF]
  exact ⟨hs, by omega, fault_none (by omega) hs⟩
theorem fact_rep {w : World} {b : Nat} (h : At w b 64 #[.int .i64 4, .int .i64 0, .string ⟨#[97, 32, 98]⟩, .slice none 0 0, .slice none 0 0, .int .i64 3, .int .i64 0, .string ⟨#[40, 120]⟩, .slice none 0 0, .slice none 0 0]) :
    RepN 2 w factV [.int .i64 5, .int .i64 0, .string ⟨#[]⟩, .slice (some ⟨b, 0, none⟩) 2 2, .slice none 0 0] := by
  have hc := h.cell
  refine ⟨some ⟨b, 0, none⟩, none, 2, 0, rfl, by unfold maxLen; simp [factV, ByteArray.size], fun i x hx => ?_, fun i x hx => by simp [factV] at hx⟩
  match i, hx with
  | 0, hx =>
    simp [factV] at hx; subst hx
    refine ⟨b, 0, [.int .i64 4, .int .i64 0, .string ⟨#[97, 32, 98]⟩, .slice none 0 0, .slice none 0 0], rfl, h.lt, fun j c hj => ?_, none, none, 0, 0, rfl, by unfold maxLen; simp [ByteArray.size], fun i x hx => by simp at hx, fun i x hx => by simp at hx⟩
    rw [hc]
    match j, hj with
    | 0, hj => simpa using hj
    | 1, hj => simpa using hj
    | 2, hj => simpa using hj
    | 3, hj => simpa using hj
    | 4, hj => simpa using hj
    | j + 5, hj => simp at hj
  | 1, hx =>
    simp [factV] at hx; subst hx
    refine ⟨b, 0, [.int .i64 3, .int .i64 0, .string ⟨#[40, 120]⟩, .slice none 0 0, .slice none 0 0], rfl, h.lt, fun j c hj => ?_, none, none, 0, 0, rfl, by unfold maxLen; simp [ByteArray.size], fun i x hx => by simp at hx, fun i x hx => by simp at hx⟩
    rw [hc]
    match j, hj with
    | 0, hj => simpa using hj
    | 1, hj => simpa using hj
    | 2, hj => simpa using hj
    | 3, hj => simpa using hj
    | 4, hj => simpa using hj
    | j + 5, hj => simp at hj
  | i + 2, hx => simp [factV] at hx
set_option maxHeartbeats 1000000 in
theorem values_any (m : Int) (w : World) (hr : Rdy m w) :
    Calls Tryd.prog 29 #[] w fun e w' => e = .returned (.bool true) ∧ Below w.heap.size w w' := by
  have HF := hid fact_shp
  have HTX := hid fact_txt
  go_enter Tryd.func29, Tryd.ntmps29
  go_wp2_with (go_at_call 32; fail)
  go_at_call 32
  refine (vText_ok (cs := [.int .i64 5, .int .i64 0, .string ⟨#[]⟩, .slice (some ⟨w.heap.size, 0, none⟩) 2 2, .slice none 0 0]) (hr.below (by go_grown)) (fact_rep (At.new w _ _ rfl)) HF.out.1 HF.out.2.1 HF.out.2.2).mono ?_
  rw [HTX.out]
  rintro e w1 ⟨rfl, hb1⟩
  go_wp2_with (go_at_call 8; refine (same_nil 0 _).mono ?_; rintro e w2 ⟨rfl, rfl⟩)
  go_ret
  exact ⟨by first | rfl | simp, Below.trans (by go_grown) (hb1.mono (by simp))⟩
end Go.Proofs.YtidillbpoklnjaaDoor
