/-
  Two values, the same but for the values in them: the program's own answer.
-/
import Derived.Test.YtfkjoppehbmomaaGreatDoorVc1
namespace Go.Proofs.YtfkjoppehbmomaaGreatDoor
open Go.RowKit
set_option maxRecDepth 100000
attribute [local go_sem ↓] Go.wp_at_zero Go.wp_at_succ

set_option maxHeartbeats 1000000 in
theorem sameOutside_says {d : Nat} {w : World} (x y : V) (b o b' o' : Nat) (cs cs' : List Value) (hx : RepN d w x cs) (hc : CellsAt w b o cs) (hb : b < w.heap.size) (hy : RepN d w y cs') (hc' : CellsAt w b' o' cs') (hb' : b' < w.heap.size) :
    Calls Tryz.prog 32 #[.pointer (some ⟨b, o, none⟩), .pointer (some ⟨b', o', none⟩)] w fun e w' => AnsB e (SameOut x y) ∧ Below w.heap.size w w' := by
  obtain ⟨e, rfl⟩ := hx.inv
  obtain ⟨al, af, cl, cf, rfl, ⟨hs, hl, hf⟩, hL, hF⟩ := hx
  obtain ⟨al', af', cl', cf', rfl, ⟨hs', hl', hf'⟩, hL', hF'⟩ := hy
  have g0 : w.cell? ⟨b, o, none⟩ = _ := hc 0 _ rfl
  have g1 : w.cell? ⟨b, o + 1, none⟩ = _ := hc 1 _ rfl
  have g2 : w.cell? ⟨b, o + 2, none⟩ = _ := hc 2 _ rfl
  have g3 : w.cell? ⟨b, o + 3, none⟩ = _ := hc 3 _ rfl
  have g4 : w.cell? ⟨b, o + 4, none⟩ = _ := hc 4 _ rfl
  have f0 : w.cell? ⟨b', o', none⟩ = _ := hc' 0 _ rfl
  have f1 : w.cell? ⟨b', o' + 1, none⟩ = _ := hc' 1 _ rfl
  have f2 : w.cell? ⟨b', o' + 2, none⟩ = _ := hc' 2 _ rfl
  have f3 : w.cell? ⟨b', o' + 3, none⟩ = _ := hc' 3 _ rfl
  have f4 : w.cell? ⟨b', o' + 4, none⟩ = _ := hc' 4 _ rfl
  have HE := hid (fun (w1 : World) (h : Below w.heap.size w w1) => equalFunc_says (w := w1) x.f y.f af af' cf cf' hf (FAt.later hF h) (FAt.later hF' h))
  clear hL hL' hF hF' hc hc' hs hs' hl hl' hf hf'
  go_enter Tryz.func32, Tryz.ntmps32
  by_cases h1 : x.k = y.k
  case neg =>
    have b1 : (x.k == y.k) = false := by simpa using h1
    go_wp2_with fail
    go_quiet (fail)
    go_wp2
    go_ret
    exact ⟨.no (fun h => h1 h.1), bel_drewN _ _⟩
  rw [← h1] at f0
  have HH1 := hid h1
  clear h1
  by_cases h2 : x.n = y.n
  case neg =>
    have b1 : (x.n == y.n) = false := by simpa using h2
    go_wp2_with fail
    go_quiet (fail)
    go_wp2
    go_ret
    exact ⟨.no (fun h => h2 h.2.1), bel_drewN _ _⟩
  rw [← h2] at f1
  have HH2 := hid h2
  clear h2
  cases h3 : (x.s.toList == y.s.toList)
  case false =>
    have H3 := hid h3
    go_wp2_with fail
    go_quiet (fail)
    go_wp2
    go_ret
    exact ⟨.no (fun h => by have := H3.out; rw [h.2.2.1] at this; simp at this), bel_drewN _ _⟩
  have h3' : x.s = y.s := toList_inj.1 (by simpa using h3)
  rw [← h3'] at f2
  have HH3 := hid h3'
  clear h3 h3'
  by_cases h4 : x.l.length = y.l.length
  case neg =>
    have b1 : ((x.l.length : Int) == (y.l.length : Int)) = false := by simp; omega
    go_wp2_with fail
    go_quiet (fail)
    go_wp2
    go_ret
    exact ⟨.no (fun h => h4 h.2.2.2.1), bel_drewN _ _⟩
  rw [← h4] at f3
  have HH4 := hid h4
  clear h4
  go_wp2_with fail
  go_region_held3 (fun w' => w'.cell? ⟨b, o, none⟩ = some (.int .i64 x.k) ∧ w'.cell? ⟨b, o + 1, none⟩ = some (.int .i64 x.n) ∧ w'.cell? ⟨b, o + 2, none⟩ = some (.string x.s) ∧ w'.cell? ⟨b, o + 3, none⟩ = some (.slice al x.l.length cl) ∧ w'.cell? ⟨b, o + 4, none⟩ = some (.slice af x.f.length cf) ∧ w'.cell? ⟨b', o', none⟩ = some (.int .i64 x.k) ∧ w'.cell? ⟨b', o' + 1, none⟩ = some (.int .i64 x.n) ∧ w'.cell? ⟨b', o' + 2, none⟩ = some (.string x.s) ∧ w'.cell? ⟨b', o' + 3, none⟩ = some (.slice al' x.l.length cl') ∧ w'.cell? ⟨b', o' + 4, none⟩ = some (.slice af' y.f.length cf'))
    (first | go_keep | (have hx := fun q => hb1.cell (p := ⟨b, q, none⟩) hb; have hx' := fun q => hb1.cell (p := ⟨b', q, none⟩) hb'; simp at hx hx'; simp [hx, hx', g0, g1, g2, g3, g4, f0, f1, f2, f3, f4]))
    ((go_at_call 64; refine (HE.out _ (by first | exact (Below.refl _ _).drew | exact Below.refl _ _ | go_grown)).mono ?_; rintro e w1 ⟨ha, hb1⟩; obtain ⟨r, rfl, hr1⟩ := ha.bool; have HR1 := hid hr1; clear hr1 ha))
  all_goals go_wp2
  all_goals go_ret
  all_goals refine ⟨AnsB.of (HR1.out.trans ⟨fun h => ⟨HH1.out, HH2.out, HH3.out, HH4.out, h⟩, fun h => h.2.2.2.2⟩), ?_⟩
  all_goals first | exact below_undrew hb1 | exact (below_undrew hb1).drew | exact hb1
end Go.Proofs.YtfkjoppehbmomaaGreatDoor
