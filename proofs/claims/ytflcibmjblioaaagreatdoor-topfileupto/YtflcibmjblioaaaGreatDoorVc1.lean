/-
  Joined: Vy, Vd2, Vc1.
-/
import Derived.Test.YtflcibmjblioaaaGreatDoorYc
import Derived.Test.YtflcibmjblioaaaGreatDoorVf
import Derived.Test.YtflcibmjblioaaaGreatDoorMh
import Derived.BigQuiet
import Derived.Deep.RegionHeld3
import Derived.Deep.DrawnRows
import Derived.Laws.EntriesVeiled
import Derived.Deep.AppendLies
import Derived.Deep.LoopGhost
import Derived.WalkSmall

/-
  Two values, the same but for the values in them.
-/
namespace Go.Proofs.YtflcibmjblioaaaGreatDoor
open Go.RowKit
set_option maxRecDepth 100000
attribute [local go_sem ↓] Go.wp_at_zero Go.wp_at_succ

/-- The elements of a list, and the fields of a dictionary, as they lie. -/
abbrev LAt (d : Nat) (w : World) (l : List V) (al : Option Addr) : Prop := ∀ (i : Nat) (x : V), l[i]? = some x → ∃ b off c, al = some ⟨b, off, none⟩ ∧ b < w.heap.size ∧ CellsAt w b (off + i * 5) c ∧ RepN d w x c
abbrev FAt (d : Nat) (w : World) (l : List (ByteArray × V)) (af : Option Addr) : Prop := ∀ (i : Nat) (q : ByteArray × V), l[i]? = some q → ∃ b off c, af = some ⟨b, off, none⟩ ∧ b < w.heap.size ∧ q.1.size ≤ maxLen ∧ w.cell? ⟨b, off + i * 6, none⟩ = some (.string q.1) ∧ CellsAt w b (off + i * 6 + 1) c ∧ RepN d w q.2 c

theorem FAt.later {d : Nat} {w w' : World} {l : List (ByteArray × V)} {af : Option Addr} (h : FAt d w l af) (hB : Below w.heap.size w w') : FAt d w' l af := fun i q hq => by
  obtain ⟨b, off, c, e, hb, hs, hn, hc, hr⟩ := h i q hq
  exact ⟨b, off, c, e, Nat.lt_of_lt_of_le hb hB.size, hs, (hB.cell (p := ⟨b, off + i * 6, none⟩) hb).trans hn, hc.later hb hB, hr.later hB⟩
theorem LAt.later {d : Nat} {w w' : World} {l : List V} {al : Option Addr} (h : LAt d w l al) (hB : Below w.heap.size w w') : LAt d w' l al := fun i q hq => by
  obtain ⟨b, off, c, e, hb, hc, hr⟩ := h i q hq
  exact ⟨b, off, c, e, Nat.lt_of_lt_of_le hb hB.size, hc.later hb hB, hr.later hB⟩
set_option maxHeartbeats 400000 in
theorem sameName_says (n1 n2 : ByteArray) (c1 c2 c3 c4 c5 e1 e2 e3 e4 e5 : Value) (w : World) :
    Calls Tryz.prog 84 #[.agg #[.string n1, c1, c2, c3, c4, c5], .agg #[.string n2, e1, e2, e3, e4, e5]] w fun e w' => e = .returned (.bool (n1.toList == n2.toList)) ∧ Below w.heap.size w w' := by
  go_enter Tryz.func84, Tryz.ntmps84
  go_wp2_with fail
  go_ret
  exact ⟨by first | rfl | simp, by go_grown⟩

theorem map_take_ext {x y : List (ByteArray × V)} {j : Nat} (hl : x.length = y.length) (hj : j = x.length) (h : ∀ i : Nat, i < j → (x[i]?).map (·.1) = (y[i]?).map (·.1)) : x.map (·.1) = y.map (·.1) :=
  List.ext_getElem? fun i => by
    rw [List.getElem?_map, List.getElem?_map]
    by_cases hi : i < j
    · exact h i hi
    · rw [List.getElem?_eq_none (by omega), List.getElem?_eq_none (by omega)]

set_option maxHeartbeats 1000000 in
theorem equalFunc_says {d : Nat} {w : World} (x y : List (ByteArray × V)) (af af' : Option Addr) (cf cf' : Nat) (hx : x.length ≤ maxLen) (hF : FAt d w x af) (hF' : FAt d w y af') :
    Calls Tryz.prog 85 #[.slice af x.length cf, .slice af' y.length cf', .func (.func 84) #[] #[]] w fun e w' => AnsB e (x.map (·.1) = y.map (·.1)) ∧ Below w.heap.size w w' := by
  unfold maxLen at hx
  have HF := hid hF
  have HF' := hid hF'
  clear hF hF'
  by_cases hl : x.length = y.length
  case neg =>
    go_enter Tryz.func85, Tryz.ntmps85
    go_wp2_with fail
    go_ret
    exact ⟨.no (fun h => hl (by have := congrArg List.length h; simpa using this)), Below.refl _ _⟩
  have HLL := hid hl
  rw [← hl]
  clear hl
  go_enter Tryz.func85, Tryz.ntmps85
  go_wp2_with fail
  go_loopw [17] (fun i wr => ∃ j : Nat, i = .int .i64 j ∧ j ≤ x.length ∧ (∀ i : Nat, i < j → (x[i]?).map (·.1) = (y[i]?).map (·.1)) ∧ Below w.heap.size w wr) (fun i _ => x.length - (intOf i).toNat)
  case atStart => exact ⟨0, rfl, Nat.zero_le _, fun i hi => by omega, Below.refl _ _⟩
  case round =>
    obtain ⟨j, rfl, hj, hz, hB⟩ := hrel
    have HZ := hid hz
    clear hz
    by_cases hjl : j < x.length
    · have hjl' : (j : Int) < x.length := by omega
      have hjy : j < y.length := by have := HLL.out; omega
      obtain ⟨b, off, c, rfl, hbl, _, hcn, hc, hr⟩ := HF.out j x[j] (List.getElem?_eq_getElem hjl)
      obtain ⟨b', off', c', rfl, hbl', _, hcn', hc', hr'⟩ := HF'.out j y[j] (List.getElem?_eq_getElem hjy)
      have hbr : b < wr.heap.size := Nat.lt_of_lt_of_le hbl hB.size
      have hbr' : b' < wr.heap.size := Nat.lt_of_lt_of_le hbl' hB.size
      obtain ⟨k1, n1, s1, a1, l1, c1, a2, l2, c2, rfl, g0, g1, g2, g3, g4⟩ := rep_cells (hr.later hB) (hc.later hbl hB)
      obtain ⟨k1', n1', s1', a1', l1', c1', a2', l2', c2', rfl, g0', g1', g2', g3', g4'⟩ := rep_cells (hr'.later hB) (hc'.later hbl' hB)
      have gn := (hB.cell (p := ⟨b, off + j * 6, none⟩) hbl).trans hcn
      have gn' := (hB.cell (p := ⟨b', off' + j * 6, none⟩) hbl').trans hcn'
      clear hr hr' hc hc' hcn hcn'
      cases hnm : (x[j].1.toList == y[j].1.toList)
      · have HN := hid hnm
        go_wp2_with (go_at_call 84; refine (sameName_says x[j].1 y[j].1 _ _ _ _ _ _ _ _ _ _ _).mono ?_; rw [HN.out]; rintro e w1 ⟨rfl, hb1⟩)
        go_ret
        refine ⟨.no (fun h => ?_), hB.trans ((Below.trans (B := wr.heap.size) (by go_grown) (hb1.mono (by simp; omega))).mono hB.size)⟩
        have h1 := congrArg (fun l : List ByteArray => l[j]?) h
        simp only [List.getElem?_map, List.getElem?_eq_getElem hjl, List.getElem?_eq_getElem hjy, Option.map_some, Option.some.injEq] at h1
        have := HN.out
        rw [h1] at this
        simp at this
      · have HN := hid hnm
        go_wp2_with (go_at_call 84; refine (sameName_says x[j].1 y[j].1 _ _ _ _ _ _ _ _ _ _ _).mono ?_; rw [HN.out]; rintro e w1 ⟨rfl, hb1⟩)
        go_roundw
        case rel =>
          refine ⟨j + 1, by go_num, by omega, fun i hi => ?_, hB.trans ((Below.trans (B := wr.heap.size) (by go_grown) (hb1.mono (by simp; omega))).mono hB.size)⟩
          by_cases hij : i = j
          · rw [hij, List.getElem?_eq_getElem hjl, List.getElem?_eq_getElem hjy]
            exact congrArg some (toList_inj.1 (by simpa using HN.out))
          · exact HZ.out i (by omega)
        case measure => simp [intOf]; omega
    · have hjl' : ¬ (j : Int) < x.length := by omega
      go_wp2_with fail
      go_ret
      exact ⟨.yes (map_take_ext HLL.out (by omega) HZ.out), hB⟩
/-- The same but for what is in them. -/
def SameOut (x y : V) : Prop := x.k = y.k ∧ x.n = y.n ∧ x.s = y.s ∧ x.l.length = y.l.length ∧ x.f.map (·.1) = y.f.map (·.1)
end Go.Proofs.YtflcibmjblioaaaGreatDoor

/-
  Where a name stands among fields.
-/
namespace Go.Proofs.YtflcibmjblioaaaGreatDoor
open Go.RowKit
set_option maxRecDepth 100000

set_option maxHeartbeats 400000 in
theorem isName_one (name n : ByteArray) (c1 c2 c3 c4 c5 : Value) (w : World) (B : Nat) (hB : At w B 9 #[.string name]) :
    Calls Tryz.prog 59 #[.agg #[.string n, c1, c2, c3, c4, c5], .pointer (some ⟨B, 0, none⟩)] w fun e w' => e = .returned (.bool (n.toList == name.toList)) ∧ Below w.heap.size w w' := by
  have c := hB.cell 0
  have l := hB.lt
  simp at c
  go_enter Tryz.func59, Tryz.ntmps59
  go_wp2_with fail
  go_ret
  exact ⟨by first | rfl | simp, by go_grown⟩
set_option maxHeartbeats 1000000 in
theorem index_isName {d : Nat} {w : World} (name : ByteArray) (l : List (ByteArray × V)) (al : Option Addr) (cl B : Nat) (hl : l.length ≤ maxLen) (hL : FAt d w l al) (hB : At w B 9 #[.string name]) :
    Calls Tryz.prog 32 #[.slice al l.length cl, .func (.func 59) #[] #[.pointer (some ⟨B, 0, none⟩)]] w fun e w' => (∃ r : Int, e = .returned (.int .i64 r) ∧ FirstAt (fun n => n.toList == name.toList) l r) ∧ Below w.heap.size w w' := by
  unfold maxLen at hl
  have HL := hid hL
  have HB := hid hB
  clear hL hB
  go_enter Tryz.func32, Tryz.ntmps32
  go_wp2_with fail
  go_loopw [8] (fun i wr => ∃ j : Nat, i = .int .i64 j ∧ j ≤ l.length ∧ (∀ (i : Nat) (q : ByteArray × V), i < j → l[i]? = some q → (fun n => n.toList == name.toList) q.1 = false) ∧ Below w.heap.size w wr) (fun i _ => l.length - (intOf i).toNat)
  case atStart => exact ⟨0, rfl, Nat.zero_le _, fun i q hi => by omega, Below.refl _ _⟩
  case round =>
    obtain ⟨j, rfl, hj, hz, hK⟩ := hrel
    have HZ := hid hz
    clear hz
    by_cases hjl : j < l.length
    · have hjl' : (j : Int) < l.length := by omega
      obtain ⟨b, off, c, rfl, hbl, _, hcn, hc, hr⟩ := HL.out j l[j] (List.getElem?_eq_getElem hjl)
      have hbr : b < wr.heap.size := Nat.lt_of_lt_of_le hbl hK.size
      obtain ⟨k1, n1, s1, a1, l1, c1, a2, l2, c2, rfl, g0, g1, g2, g3, g4⟩ := rep_cells (hr.later hK) (hc.later hbl hK)
      have gn := (hK.cell (p := ⟨b, off + j * 6, none⟩) hbl).trans hcn
      clear hr hc hcn
      cases hp : (l[j].1.toList == name.toList)
      · have HP := hid hp
        clear hp
        go_wp2_with (go_at_call 59; refine (isName_one name l[j].1 _ _ _ _ _ _ B (HB.out.later hK)).mono ?_; rw [HP.out]; rintro e w1 ⟨rfl, hb1⟩)
        go_roundw
        case rel =>
          refine ⟨j + 1, by go_num, by omega, fun i q hi hq => ?_, hK.trans (hb1.mono hK.size)⟩
          by_cases hij : i = j
          · rw [hij, List.getElem?_eq_getElem hjl] at hq
            cases hq
            exact HP.out
          · exact HZ.out i q (by omega) hq
        case measure => simp [intOf]; omega
      · have HP := hid hp
        clear hp
        go_wp2_with (go_at_call 59; refine (isName_one name l[j].1 _ _ _ _ _ _ B (HB.out.later hK)).mono ?_; rw [HP.out]; rintro e w1 ⟨rfl, hb1⟩)
        go_ret
        exact ⟨⟨j, rfl, .inr ⟨j, l[j], rfl, List.getElem?_eq_getElem hjl, HP.out, HZ.out⟩⟩, hK.trans (hb1.mono hK.size)⟩
    · have hjl' : ¬ (j : Int) < l.length := by omega
      go_wp2_with fail
      go_ret
      refine ⟨⟨-1, rfl, .inl ⟨rfl, fun q hq => ?_⟩⟩, hK⟩
      obtain ⟨i, hi⟩ := List.getElem?_of_mem hq
      exact HZ.out i q (by have := (List.getElem?_eq_some_iff.1 hi).1; omega) hi
set_option maxHeartbeats 400000 in
theorem above_one (name n : ByteArray) (c1 c2 c3 c4 c5 : Value) (w : World) (B : Nat) (hB : At w B 9 #[.string name]) :
    Calls Tryz.prog 33 #[.agg #[.string n, c1, c2, c3, c4, c5], .pointer (some ⟨B, 0, none⟩)] w fun e w' => e = .returned (.bool (!(leB n name))) ∧ Below w.heap.size w w' := by
  have c := hB.cell 0
  have l := hB.lt
  simp at c
  unfold leB
  go_enter Tryz.func33, Tryz.ntmps33
  go_wp2_with fail
  go_ret
  exact ⟨by first | rfl | simp, by go_grown⟩
set_option maxHeartbeats 1000000 in
theorem index_above {d : Nat} {w : World} (name : ByteArray) (l : List (ByteArray × V)) (al : Option Addr) (cl B : Nat) (hl : l.length ≤ maxLen) (hL : FAt d w l al) (hB : At w B 9 #[.string name]) :
    Calls Tryz.prog 32 #[.slice al l.length cl, .func (.func 33) #[] #[.pointer (some ⟨B, 0, none⟩)]] w fun e w' => (∃ r : Int, e = .returned (.int .i64 r) ∧ FirstAt (fun n => !(leB n name)) l r) ∧ Below w.heap.size w w' := by
  unfold maxLen at hl
  have HL := hid hL
  have HB := hid hB
  clear hL hB
  go_enter Tryz.func32, Tryz.ntmps32
  go_wp2_with fail
  go_loopw [8] (fun i wr => ∃ j : Nat, i = .int .i64 j ∧ j ≤ l.length ∧ (∀ (i : Nat) (q : ByteArray × V), i < j → l[i]? = some q → (fun n => !(leB n name)) q.1 = false) ∧ Below w.heap.size w wr) (fun i _ => l.length - (intOf i).toNat)
  case atStart => exact ⟨0, rfl, Nat.zero_le _, fun i q hi => by omega, Below.refl _ _⟩
  case round =>
    obtain ⟨j, rfl, hj, hz, hK⟩ := hrel
    have HZ := hid hz
    clear hz
    by_cases hjl : j < l.length
    · have hjl' : (j : Int) < l.length := by omega
      obtain ⟨b, off, c, rfl, hbl, _, hcn, hc, hr⟩ := HL.out j l[j] (List.getElem?_eq_getElem hjl)
      have hbr : b < wr.heap.size := Nat.lt_of_lt_of_le hbl hK.size
      obtain ⟨k1, n1, s1, a1, l1, c1, a2, l2, c2, rfl, g0, g1, g2, g3, g4⟩ := rep_cells (hr.later hK) (hc.later hbl hK)
      have gn := (hK.cell (p := ⟨b, off + j * 6, none⟩) hbl).trans hcn
      clear hr hc hcn
      cases hp : (!(leB l[j].1 name))
      · have HP := hid hp
        clear hp
        go_wp2_with (go_at_call 33; refine (above_one name l[j].1 _ _ _ _ _ _ B (HB.out.later hK)).mono ?_; rw [HP.out]; rintro e w1 ⟨rfl, hb1⟩)
        go_roundw
        case rel =>
          refine ⟨j + 1, by go_num, by omega, fun i q hi hq => ?_, hK.trans (hb1.mono hK.size)⟩
          by_cases hij : i = j
          · rw [hij, List.getElem?_eq_getElem hjl] at hq
            cases hq
            exact HP.out
          · exact HZ.out i q (by omega) hq
        case measure => simp [intOf]; omega
      · have HP := hid hp
        clear hp
        go_wp2_with (go_at_call 33; refine (above_one name l[j].1 _ _ _ _ _ _ B (HB.out.later hK)).mono ?_; rw [HP.out]; rintro e w1 ⟨rfl, hb1⟩)
        go_ret
        exact ⟨⟨j, rfl, .inr ⟨j, l[j], rfl, List.getElem?_eq_getElem hjl, HP.out, HZ.out⟩⟩, hK.trans (hb1.mono hK.size)⟩
    · have hjl' : ¬ (j : Int) < l.length := by omega
      go_wp2_with fail
      go_ret
      refine ⟨⟨-1, rfl, .inl ⟨rfl, fun q hq => ?_⟩⟩, hK⟩
      obtain ⟨i, hi⟩ := List.getElem?_of_mem hq
      exact HZ.out i q (by have := (List.getElem?_eq_some_iff.1 hi).1; omega) hi
set_option maxHeartbeats 400000 in
theorem find_says {d : Nat} {w : World} (name : ByteArray) (l : List (ByteArray × V)) (al : Option Addr) (cl : Nat) (hl : l.length ≤ maxLen) (hL : FAt d w l al) :
    Calls Tryz.prog 31 #[.slice al l.length cl, .string name] w fun e w' => (∃ r : Int, e = .returned (.int .i64 r) ∧ FirstAt (fun n => n.toList == name.toList) l r) ∧ Below w.heap.size w w' := by
  have H := hid (fun w1 (h : Below w.heap.size w w1) B hB => index_isName (w := w1) name l al cl B hl (FAt.later hL h) hB)
  clear hL
  go_enter Tryz.func31, Tryz.ntmps31
  go_wp2_with (go_at_call 32; refine (H.out _ (by go_grown) w.heap.size (At.new _ _ _ rfl)).mono ?_; rintro e w1 ⟨⟨r, rfl, hr⟩, hb1⟩; have HR := hid hr; clear hr)
  go_ret
  exact ⟨⟨r, rfl, HR.out⟩, Below.trans (by go_grown) (hb1.mono (by simp))⟩
end Go.Proofs.YtflcibmjblioaaaGreatDoor

/-
  Copies: trees that lie in memory of their own, each list behind those that lead to it.
-/
namespace Go.Proofs.YtflcibmjblioaaaGreatDoor
open Go.RowKit
set_option maxRecDepth 100000

/-- A block's kind and size. -/
def Shape (w : World) (b : Nat) (t : TypeId) (n : Nat) : Prop := ∃ cs, w.heap[b]? = some (.cells cs t (0, 0)) ∧ cs.size = n
/-- The fields lie in a row of their own. -/
def RowF (w : World) (n : Nat) (af : Option Addr) (cf bf : Nat) : Prop := (n = 0 → af = none ∧ cf = 0) ∧ (0 < n → Shape w bf 74 (cf * 6) ∧ n ≤ cf ∧ cf ≤ maxLen)
/-- The cells hold the tree; its lists lie from block m on, each behind those that lead to it. -/
def RepG : Nat → Nat → World → V → List Value → Prop
  | 0, _, _, _, _ => False
  | d + 1, m, w, v, cs => ∃ (al af : Option Addr) (cl cf bl bf : Nat),
      cs = [.int .i64 v.k, .int .i64 v.n, .string v.s, .slice al v.l.length cl, .slice af v.f.length cf] ∧ (v.s.size ≤ maxLen ∧ v.l.length ≤ maxLen ∧ v.f.length ≤ maxLen) ∧ (m ≤ bl ∧ m ≤ bf) ∧ RowF w v.f.length af cf bf ∧
      (∀ (i : Nat) (x : V), v.l[i]? = some x → ∃ c, al = some ⟨bl, 0, none⟩ ∧ bl < w.heap.size ∧ CellsAt w bl (i * 5) c ∧ RepG d (max bl bf + 1) w x c) ∧
      (∀ (i : Nat) (q : ByteArray × V), v.f[i]? = some q → ∃ c, af = some ⟨bf, 0, none⟩ ∧ bf < w.heap.size ∧ q.1.size ≤ maxLen ∧ w.cell? ⟨bf, i * 6, none⟩ = some (.string q.1) ∧ CellsAt w bf (i * 6 + 1) c ∧ RepG d (max bl bf + 1) w q.2 c)
theorem RepG.rep : ∀ {d m : Nat} {w : World} {v : V} {cs : List Value}, RepG d m w v cs → RepN d w v cs
  | 0, _, _, _, _, h => h.elim
  | d + 1, m, w, v, cs, h => by
    obtain ⟨al, af, cl, cf, bl, bf, h1, h2, _, _, h3, h4⟩ := h
    refine ⟨al, af, cl, cf, h1, h2, fun i x hx => ?_, fun i q hq => ?_⟩
    · obtain ⟨c, e, hb, hc, hr⟩ := h3 i x hx
      exact ⟨bl, 0, c, e, hb, by rw [Nat.zero_add]; exact hc, hr.rep⟩
    · obtain ⟨c, e, hb, hs, hn, hc, hr⟩ := h4 i q hq
      exact ⟨bf, 0, c, e, hb, hs, by rw [Nat.zero_add]; exact hn, by rw [Nat.zero_add]; exact hc, hr.rep⟩
theorem RepG.low : ∀ {d m m' : Nat} {w : World} {v : V} {cs : List Value}, RepG d m w v cs → m' ≤ m → RepG d m' w v cs
  | 0, _, _, _, _, _, h, _ => h.elim
  | d + 1, m, m', w, v, cs, h, hm => by
    obtain ⟨al, af, cl, cf, bl, bf, h1, h2, ⟨h5, h6⟩, hrow, h3, h4⟩ := h
    exact ⟨al, af, cl, cf, bl, bf, h1, h2, ⟨by omega, by omega⟩, hrow, h3, h4⟩
/-- It hangs on the blocks from m on alone. -/
theorem RepG.same : ∀ {d m : Nat} {w w' : World} {v : V} {cs : List Value}, RepG d m w v cs → w.heap.size ≤ w'.heap.size → (∀ b, m ≤ b → b < w.heap.size → w'.heap[b]? = w.heap[b]?) → RepG d m w' v cs
  | 0, _, _, _, _, _, h, _, _ => h.elim
  | d + 1, m, w, w', v, cs, h, hs, hb => by
    have cell : ∀ b o, m ≤ b → b < w.heap.size → w'.cell? ⟨b, o, none⟩ = w.cell? ⟨b, o, none⟩ := fun b o h1 h2 => World.cell?_of_block (a := ⟨b, o, none⟩) (hb b h1 h2)
    obtain ⟨al, af, cl, cf, bl, bf, h1, h2, ⟨h5, h6⟩, hrow, h3, h4⟩ := h
    have hrow' : RowF w' v.f.length af cf bf := ⟨hrow.1, fun h0 => by
      obtain ⟨⟨cur, hc, hs1⟩, h8, h9⟩ := hrow.2 h0
      exact ⟨⟨cur, (hb bf h6 (Array.getElem?_eq_some_iff.1 hc).1).trans hc, hs1⟩, h8, h9⟩⟩
    refine ⟨al, af, cl, cf, bl, bf, h1, h2, ⟨h5, h6⟩, hrow', fun i x hx => ?_, fun i q hq => ?_⟩
    · obtain ⟨c, e, hl, hc, hr⟩ := h3 i x hx
      exact ⟨c, e, by omega, fun j v hv => (cell _ _ h5 hl).trans (hc j v hv), hr.same hs (fun b hb1 hb2 => hb b (by omega) hb2)⟩
    · obtain ⟨c, e, hl, hz, hn, hc, hr⟩ := h4 i q hq
      exact ⟨c, e, by omega, hz, (cell _ _ h6 hl).trans hn, fun j v hv => (cell _ _ h6 hl).trans (hc j v hv), hr.same hs (fun b hb1 hb2 => hb b (by omega) hb2)⟩
theorem RepG.later {d m : Nat} {w w' : World} {v : V} {cs : List Value} (h : RepG d m w v cs) (hB : Below w.heap.size w w') : RepG d m w' v cs := h.same hB.size (fun b _ hb => hB.block b hb)

/-- A place that is still to be copied: where it lies, how deep, and the tree. -/
structure Pl where
  b : Nat
  o : Nat
  d : Nat
  v : V
def Pl.ptr (p : Pl) : Value := .pointer (some ⟨p.b, p.o, none⟩)
/-- A tree is there. -/
def Pl.done (p : Pl) (m : Nat) (w : World) : Prop := p.b < w.heap.size ∧ ∃ c, CellsAt w p.b p.o c ∧ RepG p.d m w p.v c
/-- What a block of trees is. -/
def Tree (w : World) (b : Nat) : Prop := ∃ cs t, w.heap[b]? = some (.cells cs t (0, 0)) ∧ (t = 40 ∨ t = 74)
/-- What is there ahead of copying. -/
def Pl.todo (p : Pl) (w0 w : World) : Prop := w0.heap.size ≤ p.b ∧ Tree w p.b ∧ ∃ c, CellsAt w p.b p.o c ∧ RepN p.d w0 p.v c
def Pl.off (p q : Pl) : Prop := p.b ≠ q.b ∨ p.o + 5 ≤ q.o ∨ q.o + 5 ≤ p.o
/-- Is it one of the two cells of a place that copying changes? -/
def Pl.hit (p : Pl) (b o : Nat) : Prop := b = p.b ∧ (o = p.o + 3 ∨ o = p.o + 4)
/-- A later world has what this one has, but at the places. -/
def Agree (w0 w w' : World) (P : List Pl) : Prop := w.heap.size ≤ w'.heap.size ∧ (∀ b o, w0.heap.size ≤ b → Tree w b → (∀ p ∈ P, ¬ p.hit b o) → w'.cell? ⟨b, o, none⟩ = w.cell? ⟨b, o, none⟩) ∧ ∀ b t n, w0.heap.size ≤ b → (t = 40 ∨ t = 74) → Shape w b t n → Shape w' b t n
def leftC (l : List Pl) : Nat := (l.map fun p => p.v.cnt).sum
theorem leftC_append (l k : List Pl) : leftC (l ++ k) = leftC l + leftC k := by simp [leftC]
theorem leftC_ge (l : List Pl) : l.length ≤ leftC l := by
  induction l with
  | nil => simp
  | cons q l ih =>
    have : 1 ≤ q.v.cnt := by rw [cnt_eq]; omega
    simp [leftC] at *; omega
/-- How far copying has come. -/
structure Copying (w0 : World) (r : Pl) (m : Nat) (w : World) (P : List Pl) : Prop where
  below : Below w0.heap.size w0 w
  todo : ∀ p ∈ P, p.todo w0 w
  apart : P.Pairwise Pl.off
  good : ∀ w', Agree w0 w w' P → (∀ p ∈ P, p.done w.heap.size w') → r.done m w'
end Go.Proofs.YtflcibmjblioaaaGreatDoor
