/-
  Two values, the same but for the values in them.
-/
import Derived.Test.YtidillbpoklnjaaDoorVh
import Derived.Test.YtidillbpoklnjaaDoorVf
import Derived.Test.YtidillbpoklnjaaDoorFh
import Derived.BigQuiet
import Derived.Deep.RegionHeld3
import Derived.Deep.DrawnRows
namespace Go.Proofs.YtidillbpoklnjaaDoor
open Go.RowKit
set_option maxRecDepth 100000
attribute [local go_sem ↓] Go.wp_at_zero Go.wp_at_succ

/-- The elements of a list, and the fields of a dictionary, as they lie. -/
abbrev LAt (d : Nat) (w : World) (l : List V) (al : Option Addr) : Prop := ∀ (i : Nat) (x : V), l[i]? = some x → ∃ b off c, al = some ⟨b, off, none⟩ ∧ b < w.heap.size ∧ CellsAt w b (off + i * 5) c ∧ RepN d w x c
abbrev FAt (d : Nat) (w : World) (l : List (ByteArray × V)) (af : Option Addr) : Prop := ∀ (i : Nat) (q : ByteArray × V), l[i]? = some q → ∃ b off c, af = some ⟨b, off, none⟩ ∧ b < w.heap.size ∧ q.1.size ≤ maxLen ∧ w.cell? ⟨b, off + i * 6, none⟩ = some (.string q.1) ∧ CellsAt w b (off + i * 6 + 1) c ∧ RepN d w q.2 c

theorem FAt.later {d : Nat} {w w' : World} {l : List (ByteArray × V)} {af : Option Addr} (h : FAt d w l af) (hB : Below w.heap.size w w') : FAt d w' l af := fun i q hq => by
  obtain ⟨b, off, c, e, hb, hs, hn, hc, hr⟩ := h i q hq
  exact ⟨b, off, c, e, Nat.lt_of_lt_of_le hb hB.size, hs, (hB.cell (p := ⟨b, off + i * 6, none⟩) hb).trans hn, hc.later hb hB, hr.later hB⟩
theorem LAt.later {d : Nat} {w w' : World} {l : List V} {al : Option Addr} (h : LAt d w l al) (hB : Below w.heap.size w w') : LAt d w' l al := fun i q hq => by
  obtain ⟨b, off, c, e, hb, hc, hr⟩ := h i q hq
  exact ⟨b, off, c, e, Nat.lt_of_lt_of_le hb hB.size, hc.later hb hB, hr.later hB⟩
set_option maxHeartbeats 400000 in
theorem sameName_says (n1 n2 : ByteArray) (c1 c2 c3 c4 c5 e1 e2 e3 e4 e5 : Value) (w : World) :
    Calls Tryd.prog 98 #[.agg #[.string n1, c1, c2, c3, c4, c5], .agg #[.string n2, e1, e2, e3, e4, e5]] w fun e w' => e = .returned (.bool (n1.toList == n2.toList)) ∧ Below w.heap.size w w' := by
  go_enter Tryd.func98, Tryd.ntmps98
  go_wp2_with fail
  go_ret
  exact ⟨by first | rfl | simp, by go_grown⟩

theorem map_take_ext {x y : List (ByteArray × V)} {j : Nat} (hl : x.length = y.length) (hj : j = x.length) (h : ∀ i : Nat, i < j → (x[i]?).map (·.1) = (y[i]?).map (·.1)) : x.map (·.1) = y.map (·.1) :=
  List.ext_getElem? fun i => by
    rw [List.getElem?_map, List.getElem?_map]
    by_cases hi : i < j
    · exact h i hi
    · rw [List.getElem?_eq_none (by omega), List.getElem?_eq_none (by omega)]

set_option maxHeartbeats 1000000 in
theorem equalFunc_says {d : Nat} {w : World} (x y : List (ByteArray × V)) (af af' : Option Addr) (cf cf' : Nat) (hx : x.length ≤ maxLen) (hF : FAt d w x af) (hF' : FAt d w y af') :
    Calls Tryd.prog 99 #[.slice af x.length cf, .slice af' y.length cf', .func (.func 98) #[] #[]] w fun e w' => AnsB e (x.map (·.1) = y.map (·.1)) ∧ Below w.heap.size w w' := by
  unfold maxLen at hx
  have HF := hid hF
  have HF' := hid hF'
  clear hF hF'
  by_cases hl : x.length = y.length
  case neg =>
    go_enter Tryd.func99, Tryd.ntmps99
    go_wp2_with fail
    go_ret
    exact ⟨.no (fun h => hl (by have := congrArg List.length h; simpa using this)), Below.refl _ _⟩
  have HLL := hid hl
  rw [← hl]
  clear hl
  go_enter Tryd.func99, Tryd.ntmps99
  go_wp2_with fail
  go_loopw [17] (fun i wr => ∃ j : Nat, i = .int .i64 j ∧ j ≤ x.length ∧ (∀ i : Nat, i < j → (x[i]?).map (·.1) = (y[i]?).map (·.1)) ∧ Below w.heap.size w wr) (fun i _ => x.length - (intOf i).toNat)
  case atStart => exact ⟨0, rfl, Nat.zero_le _, fun i hi => by omega, Below.refl _ _⟩
  case round =>
    obtain ⟨j, rfl, hj, hz, hB⟩ := hrel
    have HZ := hid hz
    clear hz
    by_cases hjl : j < x.length
    · have hjl' : (j : Int) < x.length := by omega
      have hjy : j < y.length := by have := HLL.out; omega
      obtain ⟨b, off, c, rfl, hbl, _, hcn, hc, hr⟩ := HF.out j x[j] (List.getElem?_eq_getElem hjl)
      obtain ⟨b', off', c', rfl, hbl', _, hcn', hc', hr'⟩ := HF'.out j y[j] (List.getElem?_eq_getElem hjy)
      have hbr : b < wr.heap.size := Nat.lt_of_lt_of_le hbl hB.size
      have hbr' : b' < wr.heap.size := Nat.lt_of_lt_of_le hbl' hB.size
      obtain ⟨k1, n1, s1, a1, l1, c1, a2, l2, c2, rfl, g0, g1, g2, g3, g4⟩ := rep_cells (hr.later hB) (hc.later hbl hB)
      obtain ⟨k1', n1', s1', a1', l1', c1', a2', l2', c2', rfl, g0', g1', g2', g3', g4'⟩ := rep_cells (hr'.later hB) (hc'.later hbl' hB)
      have gn := (hB.cell (p := ⟨b, off + j * 6, none⟩) hbl).trans hcn
      have gn' := (hB.cell (p := ⟨b', off' + j * 6, none⟩) hbl').trans hcn'
      clear hr hr' hc hc' hcn hcn'
      cases hnm : (x[j].1.toList == y[j].1.toList)
      · have HN := hid hnm
        go_wp2_with (go_at_call 98; refine (sameName_says x[j].1 y[j].1 _ _ _ _ _ _ _ _ _ _ _).mono ?_; rw [HN.out]; rintro e w1 ⟨rfl, hb1⟩)
        go_ret
        refine ⟨.no (fun h => ?_), hB.trans ((Below.trans (B := wr.heap.size) (by go_grown) (hb1.mono (by simp; omega))).mono hB.size)⟩
        have h1 := congrArg (fun l : List ByteArray => l[j]?) h
        simp only [List.getElem?_map, List.getElem?_eq_getElem hjl, List.getElem?_eq_getElem hjy, Option.map_some, Option.some.injEq] at h1
        have := HN.out
        rw [h1] at this
        simp at this
      · have HN := hid hnm
        go_wp2_with (go_at_call 98; refine (sameName_says x[j].1 y[j].1 _ _ _ _ _ _ _ _ _ _ _).mono ?_; rw [HN.out]; rintro e w1 ⟨rfl, hb1⟩)
        go_roundw
        case rel =>
          refine ⟨j + 1, by go_num, by omega, fun i hi => ?_, hB.trans ((Below.trans (B := wr.heap.size) (by go_grown) (hb1.mono (by simp; omega))).mono hB.size)⟩
          by_cases hij : i = j
          · rw [hij, List.getElem?_eq_getElem hjl, List.getElem?_eq_getElem hjy]
            exact congrArg some (toList_inj.1 (by simpa using HN.out))
          · exact HZ.out i (by omega)
        case measure => simp [intOf]; omega
    · have hjl' : ¬ (j : Int) < x.length := by omega
      go_wp2_with fail
      go_ret
      exact ⟨.yes (map_take_ext HLL.out (by omega) HZ.out), hB⟩
/-- The same but for what is in them. -/
def SameOut (x y : V) : Prop := x.k = y.k ∧ x.n = y.n ∧ x.s = y.s ∧ x.l.length = y.l.length ∧ x.f.map (·.1) = y.f.map (·.1)
end Go.Proofs.YtidillbpoklnjaaDoor
