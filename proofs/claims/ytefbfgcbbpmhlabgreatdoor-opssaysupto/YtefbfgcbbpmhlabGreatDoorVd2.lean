/-
  Joined: Vf, Vy, Vd2.
-/
import Derived.Test.YtefbfgcbbpmhlabGreatDoorYc
import Derived.Test.YtefbfgcbbpmhlabGreatDoorRd
import Derived.BigQuiet
import Derived.Deep.RegionHeld3
import Derived.Deep.DrawnRows
import Derived.Test.YtefbfgcbbpmhlabGreatDoorVd1
import Derived.Laws.EntriesVeiled

/-
  The document's own answer to 'are two the same': two trees are one.
-/
namespace Go.Proofs.YtefbfgcbbpmhlabGreatDoor
open Go.RowKit
set_option maxRecDepth 100000

theorem V.ext' {a b : V} (h1 : a.k = b.k) (h2 : a.n = b.n) (h3 : a.s = b.s) (h4 : a.l = b.l) (h5 : a.f = b.f) : a = b := by
  cases a; cases b; simp_all
theorem toList_inj {a b : ByteArray} : a.toList = b.toList ↔ a = b := by
  rw [ByteArray.toList_eq, ByteArray.toList_eq]
  exact ⟨fun h => by cases a; cases b; simp_all, fun h => by rw [h]⟩

/-- Other outside: they are not the same. -/
theorem alike_other (x y : V) (al af al' af' : Option Addr) (cl cf cl' cf' : Nat) (w : World) (h : x.k ≠ y.k ∨ x.n ≠ y.n ∨ x.s ≠ y.s ∨ x.l.length ≠ y.l.length ∨ x.f.length ≠ y.f.length) :
    Calls Tryz.prog 57 #[.agg #[.int .i64 x.k, .int .i64 x.n, .string x.s, .slice al x.l.length cl, .slice af x.f.length cf], .agg #[.int .i64 y.k, .int .i64 y.n, .string y.s, .slice al' y.l.length cl', .slice af' y.f.length cf']] w fun e w' => AnsB e (x = y) ∧ Below w.heap.size w w' := by
  have hne : ¬ x = y := fun e => by subst e; rcases h with h | h | h | h | h <;> exact h rfl
  go_enter Tryz.func57, Tryz.ntmps57
  by_cases h1 : x.k = y.k
  case neg =>
    go_wp2_with fail
    go_ret
    exact ⟨.no hne, by go_grown⟩
  by_cases h2 : x.n = y.n
  case neg =>
    go_wp2_with fail
    go_ret
    exact ⟨.no hne, by go_grown⟩
  by_cases h3 : x.s = y.s
  case neg =>
    have h3' : ¬ x.s.toList = y.s.toList := fun e => h3 (toList_inj.1 e)
    go_wp2_with fail
    go_ret
    exact ⟨.no hne, by go_grown⟩
  by_cases h4 : x.l.length = y.l.length
  case neg =>
    go_wp2_with fail
    go_ret
    exact ⟨.no hne, by go_grown⟩
  have h5 : ¬ x.f.length = y.f.length := by
    rcases h with h | h | h | h | h
    · exact (h h1).elim
    · exact (h h2).elim
    · exact (h h3).elim
    · exact (h h4).elim
    · exact h
  go_wp2_with fail
  go_ret
  exact ⟨.no hne, by go_grown⟩

set_option maxHeartbeats 2000000 in
theorem alike_step (d : Nat)
    (ih : ∀ (x y : V) (cs ds : List Value) (w : World), RepN d w x cs → RepN d w y ds → Calls Tryz.prog 57 #[.agg cs.toArray, .agg ds.toArray] w fun e w' => AnsB e (x = y) ∧ Below w.heap.size w w')
    (x y : V) (cs ds : List Value) (w : World) (hx : RepN (d + 1) w x cs) (hy : RepN (d + 1) w y ds) :
    Calls Tryz.prog 57 #[.agg cs.toArray, .agg ds.toArray] w fun e w' => AnsB e (x = y) ∧ Below w.heap.size w w' := by
  obtain ⟨al, af, cl, cf, rfl, ⟨hs, hl, hf⟩, hL, hF⟩ := hx
  obtain ⟨al', af', cl', cf', rfl, ⟨hs', hl', hf'⟩, hL', hF'⟩ := hy
  by_cases hoth : x.k ≠ y.k ∨ x.n ≠ y.n ∨ x.s ≠ y.s ∨ x.l.length ≠ y.l.length ∨ x.f.length ≠ y.f.length
  · exact alike_other x y al af al' af' cl cf cl' cf' w hoth
  simp only [not_or, ne_eq, Decidable.not_not] at hoth
  obtain ⟨h1, h2, h3, h4, h5⟩ := hoth
  have HEQ := hid (show x = y ↔ x.l = y.l ∧ x.f = y.f from ⟨fun e => by subst e; exact ⟨rfl, rfl⟩, fun e => V.ext' h1 h2 h3 e.1 e.2⟩)
  unfold maxLen at hl hf
  have HL := hid hL
  have HF := hid hF
  have HL' := hid hL'
  have HF' := hid hF'
  have H45 := hid (And.intro h4 h5)
  clear hL hF hL' hF' hl' hf' hs' hs
  rw [← h1, ← h2, ← h3, ← h4, ← h5]
  clear h1 h2 h3 h4 h5
  go_enter Tryz.func57, Tryz.ntmps57
  go_wp2_with fail
  go_loopw [5] (fun i wr => ∃ j : Nat, i = .int .i64 j ∧ j ≤ x.l.length ∧ (∀ i : Nat, i < j → x.l[i]? = y.l[i]?) ∧ At wr w.heap.size 26 #[.int .i64 x.k, .int .i64 x.n, .string x.s, .slice al x.l.length cl, .slice af x.f.length cf] ∧ At wr (w.heap.size + 1) 26 #[.int .i64 x.k, .int .i64 x.n, .string x.s, .slice al' x.l.length cl', .slice af' x.f.length cf'] ∧ Below w.heap.size w wr) (fun i _ => x.l.length - (intOf i).toNat)
  case atStart => exact ⟨0, rfl, Nat.zero_le _, fun i hi => by omega, (At.new _ _ _ rfl).alloc _, At.new _ _ _ (by simp), by go_grown⟩
  case round =>
    obtain ⟨j, rfl, hj, hsh, hA, hA', hB⟩ := hrel
    have HZ := hid hsh
    clear hsh
    have mc := hA.cell
    have mz := hA.lt
    have mc' := hA'.cell
    have mz' := hA'.lt
    by_cases hjl : j < x.l.length
    · have hjl' : (j : Int) < x.l.length := by omega
      have hjy : j < y.l.length := by have := H45.out.1; omega
      obtain ⟨b, off, c, rfl, hbl, hc, hr⟩ := HL.out j x.l[j] (List.getElem?_eq_getElem hjl)
      obtain ⟨b', off', c', rfl, hbl', hc', hr'⟩ := HL'.out j y.l[j] (List.getElem?_eq_getElem hjy)
      have hbr : b < wr.heap.size := Nat.lt_of_lt_of_le hbl hB.size
      have hbr' : b' < wr.heap.size := Nat.lt_of_lt_of_le hbl' hB.size
      have q1 := hr.later hB
      have q2 := hr'.later hB
      obtain ⟨k1, n1, s1, a1, l1, c1, a2, l2, c2, rfl, g0, g1, g2, g3, g4⟩ := rep_cells q1 (hc.later hbl hB)
      obtain ⟨k1', n1', s1', a1', l1', c1', a2', l2', c2', rfl, g0', g1', g2', g3', g4'⟩ := rep_cells q2 (hc'.later hbl' hB)
      have HR := hid (And.intro q1 q2)
      clear hr hr' hc hc' q1 q2
      go_upto_region 6 with fail
      go_cut [6] from 46 to 65 (fun t wx => ∃ r : Bool, t = .bool r ∧ (r = true ↔ x.l[j] = y.l[j]) ∧ Below wr.heap.size wr wx)
      case first =>
        go_region_with (go_at_call 57; refine (ih x.l[j] y.l[j] _ _ _ (HR.out.1.later (by go_grown)) (HR.out.2.later (by go_grown))).mono ?_; rintro e w1 ⟨ha, hb1⟩; obtain ⟨r, rfl, hr1⟩ := ha.bool; have HR1 := hid hr1; clear hr1 ha)
        all_goals go_wp2_with fail
        all_goals go_meet
        all_goals exact ⟨r, rfl, HR1.out, below_undrew hb1⟩
      case rest =>
        obtain ⟨r, rfl, hr1, hb1⟩ := hcut
        have HR1 := hid hr1
        clear hr1
        cases r
        · go_wp2_with fail
          go_ret
          exact ⟨.no (fun e => by have := HR1.out.2 (by subst e; rfl); cases this), hB.trans (hb1.mono hB.size)⟩
        · go_wp2_with fail
          go_roundw
          case rel =>
            refine ⟨j + 1, by go_num, by omega, fun i hi => ?_, hA.later hb1, hA'.later hb1, hB.trans (hb1.mono hB.size)⟩
            by_cases hij : i = j
            · rw [hij, List.getElem?_eq_getElem hjl, List.getElem?_eq_getElem hjy, HR1.out.1 rfl]
            · exact HZ.out i (by omega)
          case measure => simp [intOf]; omega
    · have hjl' : ¬ (j : Int) < x.l.length := by omega
      have HZL := hid (show x.l = y.l from List.ext_getElem? fun i => by
        by_cases hi : i < j
        · exact HZ.out i hi
        · have := H45.out.1
          rw [List.getElem?_eq_none (by omega), List.getElem?_eq_none (by omega)])
      clear HZ
      go_wp2_with fail
      go_loopw [7] (fun i wr => ∃ j : Nat, i = .int .i64 j ∧ j ≤ x.f.length ∧ (∀ i : Nat, i < j → x.f[i]? = y.f[i]?) ∧ At wr w.heap.size 26 #[.int .i64 x.k, .int .i64 x.n, .string x.s, .slice al x.l.length cl, .slice af x.f.length cf] ∧ At wr (w.heap.size + 1) 26 #[.int .i64 x.k, .int .i64 x.n, .string x.s, .slice al' x.l.length cl', .slice af' x.f.length cf'] ∧ Below w.heap.size w wr) (fun i _ => x.f.length - (intOf i).toNat)
      case atStart => exact ⟨0, rfl, Nat.zero_le _, fun i hi => by omega, hA, hA', hB⟩
      case round =>
        clear hA hA' hB mc mc' mz mz'
        obtain ⟨p, rfl, hp, hsh, hA, hA', hB⟩ := hrel
        have HZ := hid hsh
        clear hsh
        have mc := hA.cell
        have mz := hA.lt
        have mc' := hA'.cell
        have mz' := hA'.lt
        by_cases hpl : p < x.f.length
        · have hpl' : (p : Int) < x.f.length := by omega
          have hpy : p < y.f.length := by have := H45.out.2; omega
          obtain ⟨b, off, c, rfl, hbl, _, hcn, hc, hr⟩ := HF.out p x.f[p] (List.getElem?_eq_getElem hpl)
          obtain ⟨b', off', c', rfl, hbl', _, hcn', hc', hr'⟩ := HF'.out p y.f[p] (List.getElem?_eq_getElem hpy)
          have hbr : b < wr.heap.size := Nat.lt_of_lt_of_le hbl hB.size
          have hbr' : b' < wr.heap.size := Nat.lt_of_lt_of_le hbl' hB.size
          have q1 := hr.later hB
          have q2 := hr'.later hB
          have gn := (hB.cell (p := ⟨b, off + p * 6, none⟩) hbl).trans hcn
          have gn' := (hB.cell (p := ⟨b', off' + p * 6, none⟩) hbl').trans hcn'
          obtain ⟨k1, n1, s1, a1, l1, c1, a2, l2, c2, rfl, g0, g1, g2, g3, g4⟩ := rep_cells q1 (hc.later hbl hB)
          obtain ⟨k1', n1', s1', a1', l1', c1', a2', l2', c2', rfl, g0', g1', g2', g3', g4'⟩ := rep_cells q2 (hc'.later hbl' hB)
          have HR := hid (And.intro q1 q2)
          clear hr hr' hc hc' q1 q2 hcn hcn'
          go_upto_region 12 with fail
          go_cut [8] from 66 to 102 (fun t wx => ∃ r : Bool, t = .bool r ∧ (r = true ↔ x.f[p].2 = y.f[p].2) ∧ Below wr.heap.size wr wx)
          case first =>
            go_region_with (go_at_call 57; refine (ih x.f[p].2 y.f[p].2 _ _ _ (HR.out.1.later (by go_grown)) (HR.out.2.later (by go_grown))).mono ?_; rintro e w1 ⟨ha, hb1⟩; obtain ⟨r, rfl, hr1⟩ := ha.bool; have HR1 := hid hr1; clear hr1 ha)
            all_goals go_wp2_with fail
            all_goals go_meet
            all_goals exact ⟨r, rfl, HR1.out, below_undrew hb1⟩
          case rest =>
            obtain ⟨r, rfl, hr1, hb1⟩ := hcut
            have HR1 := hid hr1
            clear hr1
            have x1 := hb1.cell (p := ⟨b, off + p * 6, none⟩) hbr
            have x1' := hb1.cell (p := ⟨b', off' + p * 6, none⟩) hbr'
            have x2 := fun o => hb1.cell (p := ⟨w.heap.size, o, none⟩) mz
            have x2' := fun o => hb1.cell (p := ⟨w.heap.size + 1, o, none⟩) mz'
            have hbb : Below w.heap.size w wc.drew := (hB.trans (hb1.mono hB.size)).trans (Below.refl _ _).drew
            cases hnm : (x.f[p].1.toList == y.f[p].1.toList)
            all_goals
              have HN := hid hnm
              cases r
              all_goals go_wp2_with fail
              all_goals go_region
              all_goals go_wp2_with fail
              all_goals first
                | (go_ret; exact ⟨.no (fun e => by first | (have := HR1.out.2 (by subst e; rfl); cases this; done) | (have := HN.out; subst e; simp at this; done)), hbb⟩)
                | (go_roundw
                   case rel =>
                     refine ⟨p + 1, by go_num, by omega, fun i hi => ?_, (hA.later hb1).drew, (hA'.later hb1).drew, hbb⟩
                     by_cases hij : i = p
                     · rw [hij, List.getElem?_eq_getElem hpl, List.getElem?_eq_getElem hpy]
                       exact congrArg some (Prod.ext (toList_inj.1 (by simpa using HN.out)) (HR1.out.1 (by first | rfl | trivial)))
                     · exact HZ.out i (by omega)
                   case measure => simp [intOf]; omega)
        · have hpl' : ¬ (p : Int) < x.f.length := by omega
          have HZF := hid (show x.f = y.f from List.ext_getElem? fun i => by
            by_cases hi : i < p
            · exact HZ.out i hi
            · have := H45.out.2
              rw [List.getElem?_eq_none (by omega), List.getElem?_eq_none (by omega)])
          clear HZ
          go_wp2_with fail
          go_ret
          exact ⟨.yes (HEQ.out.2 ⟨HZL.out, HZF.out⟩), hB⟩
theorem alike_says (d : Nat) : ∀ (x y : V) (cs ds : List Value) (w : World), RepN d w x cs → RepN d w y ds → Calls Tryz.prog 57 #[.agg cs.toArray, .agg ds.toArray] w fun e w' => AnsB e (x = y) ∧ Below w.heap.size w w' := by
  induction d with
  | zero => intro x y cs ds w h; exact h.elim
  | succ d ih => exact fun x y cs ds w h h' => alike_step d ih x y cs ds w h h'
end Go.Proofs.YtefbfgcbbpmhlabGreatDoor

/-
  Two values, the same but for the values in them.
-/
namespace Go.Proofs.YtefbfgcbbpmhlabGreatDoor
open Go.RowKit
set_option maxRecDepth 100000
attribute [local go_sem ↓] Go.wp_at_zero Go.wp_at_succ

/-- The elements of a list, and the fields of a dictionary, as they lie. -/
abbrev LAt (d : Nat) (w : World) (l : List V) (al : Option Addr) : Prop := ∀ (i : Nat) (x : V), l[i]? = some x → ∃ b off c, al = some ⟨b, off, none⟩ ∧ b < w.heap.size ∧ CellsAt w b (off + i * 5) c ∧ RepN d w x c
abbrev FAt (d : Nat) (w : World) (l : List (ByteArray × V)) (af : Option Addr) : Prop := ∀ (i : Nat) (q : ByteArray × V), l[i]? = some q → ∃ b off c, af = some ⟨b, off, none⟩ ∧ b < w.heap.size ∧ q.1.size ≤ maxLen ∧ w.cell? ⟨b, off + i * 6, none⟩ = some (.string q.1) ∧ CellsAt w b (off + i * 6 + 1) c ∧ RepN d w q.2 c

theorem FAt.later {d : Nat} {w w' : World} {l : List (ByteArray × V)} {af : Option Addr} (h : FAt d w l af) (hB : Below w.heap.size w w') : FAt d w' l af := fun i q hq => by
  obtain ⟨b, off, c, e, hb, hs, hn, hc, hr⟩ := h i q hq
  exact ⟨b, off, c, e, Nat.lt_of_lt_of_le hb hB.size, hs, (hB.cell (p := ⟨b, off + i * 6, none⟩) hb).trans hn, hc.later hb hB, hr.later hB⟩
theorem LAt.later {d : Nat} {w w' : World} {l : List V} {al : Option Addr} (h : LAt d w l al) (hB : Below w.heap.size w w') : LAt d w' l al := fun i q hq => by
  obtain ⟨b, off, c, e, hb, hc, hr⟩ := h i q hq
  exact ⟨b, off, c, e, Nat.lt_of_lt_of_le hb hB.size, hc.later hb hB, hr.later hB⟩
set_option maxHeartbeats 400000 in
theorem sameName_says (n1 n2 : ByteArray) (c1 c2 c3 c4 c5 e1 e2 e3 e4 e5 : Value) (w : World) :
    Calls Tryz.prog 172 #[.agg #[.string n1, c1, c2, c3, c4, c5], .agg #[.string n2, e1, e2, e3, e4, e5]] w fun e w' => e = .returned (.bool (n1.toList == n2.toList)) ∧ Below w.heap.size w w' := by
  go_enter Tryz.func172, Tryz.ntmps172
  go_wp2_with fail
  go_ret
  exact ⟨by first | rfl | simp, by go_grown⟩

theorem map_take_ext {x y : List (ByteArray × V)} {j : Nat} (hl : x.length = y.length) (hj : j = x.length) (h : ∀ i : Nat, i < j → (x[i]?).map (·.1) = (y[i]?).map (·.1)) : x.map (·.1) = y.map (·.1) :=
  List.ext_getElem? fun i => by
    rw [List.getElem?_map, List.getElem?_map]
    by_cases hi : i < j
    · exact h i hi
    · rw [List.getElem?_eq_none (by omega), List.getElem?_eq_none (by omega)]

set_option maxHeartbeats 1000000 in
theorem equalFunc_says {d : Nat} {w : World} (x y : List (ByteArray × V)) (af af' : Option Addr) (cf cf' : Nat) (hx : x.length ≤ maxLen) (hF : FAt d w x af) (hF' : FAt d w y af') :
    Calls Tryz.prog 173 #[.slice af x.length cf, .slice af' y.length cf', .func (.func 172) #[] #[]] w fun e w' => AnsB e (x.map (·.1) = y.map (·.1)) ∧ Below w.heap.size w w' := by
  unfold maxLen at hx
  have HF := hid hF
  have HF' := hid hF'
  clear hF hF'
  by_cases hl : x.length = y.length
  case neg =>
    go_enter Tryz.func173, Tryz.ntmps173
    go_wp2_with fail
    go_ret
    exact ⟨.no (fun h => hl (by have := congrArg List.length h; simpa using this)), Below.refl _ _⟩
  have HLL := hid hl
  rw [← hl]
  clear hl
  go_enter Tryz.func173, Tryz.ntmps173
  go_wp2_with fail
  go_loopw [17] (fun i wr => ∃ j : Nat, i = .int .i64 j ∧ j ≤ x.length ∧ (∀ i : Nat, i < j → (x[i]?).map (·.1) = (y[i]?).map (·.1)) ∧ Below w.heap.size w wr) (fun i _ => x.length - (intOf i).toNat)
  case atStart => exact ⟨0, rfl, Nat.zero_le _, fun i hi => by omega, Below.refl _ _⟩
  case round =>
    obtain ⟨j, rfl, hj, hz, hB⟩ := hrel
    have HZ := hid hz
    clear hz
    by_cases hjl : j < x.length
    · have hjl' : (j : Int) < x.length := by omega
      have hjy : j < y.length := by have := HLL.out; omega
      obtain ⟨b, off, c, rfl, hbl, _, hcn, hc, hr⟩ := HF.out j x[j] (List.getElem?_eq_getElem hjl)
      obtain ⟨b', off', c', rfl, hbl', _, hcn', hc', hr'⟩ := HF'.out j y[j] (List.getElem?_eq_getElem hjy)
      have hbr : b < wr.heap.size := Nat.lt_of_lt_of_le hbl hB.size
      have hbr' : b' < wr.heap.size := Nat.lt_of_lt_of_le hbl' hB.size
      obtain ⟨k1, n1, s1, a1, l1, c1, a2, l2, c2, rfl, g0, g1, g2, g3, g4⟩ := rep_cells (hr.later hB) (hc.later hbl hB)
      obtain ⟨k1', n1', s1', a1', l1', c1', a2', l2', c2', rfl, g0', g1', g2', g3', g4'⟩ := rep_cells (hr'.later hB) (hc'.later hbl' hB)
      have gn := (hB.cell (p := ⟨b, off + j * 6, none⟩) hbl).trans hcn
      have gn' := (hB.cell (p := ⟨b', off' + j * 6, none⟩) hbl').trans hcn'
      clear hr hr' hc hc' hcn hcn'
      cases hnm : (x[j].1.toList == y[j].1.toList)
      · have HN := hid hnm
        go_wp2_with (go_at_call 172; refine (sameName_says x[j].1 y[j].1 _ _ _ _ _ _ _ _ _ _ _).mono ?_; rw [HN.out]; rintro e w1 ⟨rfl, hb1⟩)
        go_ret
        refine ⟨.no (fun h => ?_), hB.trans ((Below.trans (B := wr.heap.size) (by go_grown) (hb1.mono (by simp; omega))).mono hB.size)⟩
        have h1 := congrArg (fun l : List ByteArray => l[j]?) h
        simp only [List.getElem?_map, List.getElem?_eq_getElem hjl, List.getElem?_eq_getElem hjy, Option.map_some, Option.some.injEq] at h1
        have := HN.out
        rw [h1] at this
        simp at this
      · have HN := hid hnm
        go_wp2_with (go_at_call 172; refine (sameName_says x[j].1 y[j].1 _ _ _ _ _ _ _ _ _ _ _).mono ?_; rw [HN.out]; rintro e w1 ⟨rfl, hb1⟩)
        go_roundw
        case rel =>
          refine ⟨j + 1, by go_num, by omega, fun i hi => ?_, hB.trans ((Below.trans (B := wr.heap.size) (by go_grown) (hb1.mono (by simp; omega))).mono hB.size)⟩
          by_cases hij : i = j
          · rw [hij, List.getElem?_eq_getElem hjl, List.getElem?_eq_getElem hjy]
            exact congrArg some (toList_inj.1 (by simpa using HN.out))
          · exact HZ.out i (by omega)
        case measure => simp [intOf]; omega
    · have hjl' : ¬ (j : Int) < x.length := by omega
      go_wp2_with fail
      go_ret
      exact ⟨.yes (map_take_ext HLL.out (by omega) HZ.out), hB⟩
/-- The same but for what is in them. -/
def SameOut (x y : V) : Prop := x.k = y.k ∧ x.n = y.n ∧ x.s = y.s ∧ x.l.length = y.l.length ∧ x.f.map (·.1) = y.f.map (·.1)
end Go.Proofs.YtefbfgcbbpmhlabGreatDoor

/-
  Where a name stands among fields.
-/
namespace Go.Proofs.YtefbfgcbbpmhlabGreatDoor
open Go.RowKit
set_option maxRecDepth 100000

set_option maxHeartbeats 400000 in
theorem isName_one (name n : ByteArray) (c1 c2 c3 c4 c5 : Value) (w : World) (B : Nat) (hB : At w B 9 #[.string name]) :
    Calls Tryz.prog 144 #[.agg #[.string n, c1, c2, c3, c4, c5], .pointer (some ⟨B, 0, none⟩)] w fun e w' => e = .returned (.bool (n.toList == name.toList)) ∧ Below w.heap.size w w' := by
  have c := hB.cell 0
  have l := hB.lt
  simp at c
  go_enter Tryz.func144, Tryz.ntmps144
  go_wp2_with fail
  go_ret
  exact ⟨by first | rfl | simp, by go_grown⟩
set_option maxHeartbeats 1000000 in
theorem index_isName {d : Nat} {w : World} (name : ByteArray) (l : List (ByteArray × V)) (al : Option Addr) (cl B : Nat) (hl : l.length ≤ maxLen) (hL : FAt d w l al) (hB : At w B 9 #[.string name]) :
    Calls Tryz.prog 93 #[.slice al l.length cl, .func (.func 144) #[] #[.pointer (some ⟨B, 0, none⟩)]] w fun e w' => (∃ r : Int, e = .returned (.int .i64 r) ∧ FirstAt (fun n => n.toList == name.toList) l r) ∧ Below w.heap.size w w' := by
  unfold maxLen at hl
  have HL := hid hL
  have HB := hid hB
  clear hL hB
  go_enter Tryz.func93, Tryz.ntmps93
  go_wp2_with fail
  go_loopw [8] (fun i wr => ∃ j : Nat, i = .int .i64 j ∧ j ≤ l.length ∧ (∀ (i : Nat) (q : ByteArray × V), i < j → l[i]? = some q → (fun n => n.toList == name.toList) q.1 = false) ∧ Below w.heap.size w wr) (fun i _ => l.length - (intOf i).toNat)
  case atStart => exact ⟨0, rfl, Nat.zero_le _, fun i q hi => by omega, Below.refl _ _⟩
  case round =>
    obtain ⟨j, rfl, hj, hz, hK⟩ := hrel
    have HZ := hid hz
    clear hz
    by_cases hjl : j < l.length
    · have hjl' : (j : Int) < l.length := by omega
      obtain ⟨b, off, c, rfl, hbl, _, hcn, hc, hr⟩ := HL.out j l[j] (List.getElem?_eq_getElem hjl)
      have hbr : b < wr.heap.size := Nat.lt_of_lt_of_le hbl hK.size
      obtain ⟨k1, n1, s1, a1, l1, c1, a2, l2, c2, rfl, g0, g1, g2, g3, g4⟩ := rep_cells (hr.later hK) (hc.later hbl hK)
      have gn := (hK.cell (p := ⟨b, off + j * 6, none⟩) hbl).trans hcn
      clear hr hc hcn
      cases hp : (l[j].1.toList == name.toList)
      · have HP := hid hp
        clear hp
        go_wp2_with (go_at_call 144; refine (isName_one name l[j].1 _ _ _ _ _ _ B (HB.out.later hK)).mono ?_; rw [HP.out]; rintro e w1 ⟨rfl, hb1⟩)
        go_roundw
        case rel =>
          refine ⟨j + 1, by go_num, by omega, fun i q hi hq => ?_, hK.trans (hb1.mono hK.size)⟩
          by_cases hij : i = j
          · rw [hij, List.getElem?_eq_getElem hjl] at hq
            cases hq
            exact HP.out
          · exact HZ.out i q (by omega) hq
        case measure => simp [intOf]; omega
      · have HP := hid hp
        clear hp
        go_wp2_with (go_at_call 144; refine (isName_one name l[j].1 _ _ _ _ _ _ B (HB.out.later hK)).mono ?_; rw [HP.out]; rintro e w1 ⟨rfl, hb1⟩)
        go_ret
        exact ⟨⟨j, rfl, .inr ⟨j, l[j], rfl, List.getElem?_eq_getElem hjl, HP.out, HZ.out⟩⟩, hK.trans (hb1.mono hK.size)⟩
    · have hjl' : ¬ (j : Int) < l.length := by omega
      go_wp2_with fail
      go_ret
      refine ⟨⟨-1, rfl, .inl ⟨rfl, fun q hq => ?_⟩⟩, hK⟩
      obtain ⟨i, hi⟩ := List.getElem?_of_mem hq
      exact HZ.out i q (by have := (List.getElem?_eq_some_iff.1 hi).1; omega) hi
set_option maxHeartbeats 400000 in
theorem above_one (name n : ByteArray) (c1 c2 c3 c4 c5 : Value) (w : World) (B : Nat) (hB : At w B 9 #[.string name]) :
    Calls Tryz.prog 94 #[.agg #[.string n, c1, c2, c3, c4, c5], .pointer (some ⟨B, 0, none⟩)] w fun e w' => e = .returned (.bool (!(leB n name))) ∧ Below w.heap.size w w' := by
  have c := hB.cell 0
  have l := hB.lt
  simp at c
  unfold leB
  go_enter Tryz.func94, Tryz.ntmps94
  go_wp2_with fail
  go_ret
  exact ⟨by first | rfl | simp, by go_grown⟩
set_option maxHeartbeats 1000000 in
theorem index_above {d : Nat} {w : World} (name : ByteArray) (l : List (ByteArray × V)) (al : Option Addr) (cl B : Nat) (hl : l.length ≤ maxLen) (hL : FAt d w l al) (hB : At w B 9 #[.string name]) :
    Calls Tryz.prog 93 #[.slice al l.length cl, .func (.func 94) #[] #[.pointer (some ⟨B, 0, none⟩)]] w fun e w' => (∃ r : Int, e = .returned (.int .i64 r) ∧ FirstAt (fun n => !(leB n name)) l r) ∧ Below w.heap.size w w' := by
  unfold maxLen at hl
  have HL := hid hL
  have HB := hid hB
  clear hL hB
  go_enter Tryz.func93, Tryz.ntmps93
  go_wp2_with fail
  go_loopw [8] (fun i wr => ∃ j : Nat, i = .int .i64 j ∧ j ≤ l.length ∧ (∀ (i : Nat) (q : ByteArray × V), i < j → l[i]? = some q → (fun n => !(leB n name)) q.1 = false) ∧ Below w.heap.size w wr) (fun i _ => l.length - (intOf i).toNat)
  case atStart => exact ⟨0, rfl, Nat.zero_le _, fun i q hi => by omega, Below.refl _ _⟩
  case round =>
    obtain ⟨j, rfl, hj, hz, hK⟩ := hrel
    have HZ := hid hz
    clear hz
    by_cases hjl : j < l.length
    · have hjl' : (j : Int) < l.length := by omega
      obtain ⟨b, off, c, rfl, hbl, _, hcn, hc, hr⟩ := HL.out j l[j] (List.getElem?_eq_getElem hjl)
      have hbr : b < wr.heap.size := Nat.lt_of_lt_of_le hbl hK.size
      obtain ⟨k1, n1, s1, a1, l1, c1, a2, l2, c2, rfl, g0, g1, g2, g3, g4⟩ := rep_cells (hr.later hK) (hc.later hbl hK)
      have gn := (hK.cell (p := ⟨b, off + j * 6, none⟩) hbl).trans hcn
      clear hr hc hcn
      cases hp : (!(leB l[j].1 name))
      · have HP := hid hp
        clear hp
        go_wp2_with (go_at_call 94; refine (above_one name l[j].1 _ _ _ _ _ _ B (HB.out.later hK)).mono ?_; rw [HP.out]; rintro e w1 ⟨rfl, hb1⟩)
        go_roundw
        case rel =>
          refine ⟨j + 1, by go_num, by omega, fun i q hi hq => ?_, hK.trans (hb1.mono hK.size)⟩
          by_cases hij : i = j
          · rw [hij, List.getElem?_eq_getElem hjl] at hq
            cases hq
            exact HP.out
          · exact HZ.out i q (by omega) hq
        case measure => simp [intOf]; omega
      · have HP := hid hp
        clear hp
        go_wp2_with (go_at_call 94; refine (above_one name l[j].1 _ _ _ _ _ _ B (HB.out.later hK)).mono ?_; rw [HP.out]; rintro e w1 ⟨rfl, hb1⟩)
        go_ret
        exact ⟨⟨j, rfl, .inr ⟨j, l[j], rfl, List.getElem?_eq_getElem hjl, HP.out, HZ.out⟩⟩, hK.trans (hb1.mono hK.size)⟩
    · have hjl' : ¬ (j : Int) < l.length := by omega
      go_wp2_with fail
      go_ret
      refine ⟨⟨-1, rfl, .inl ⟨rfl, fun q hq => ?_⟩⟩, hK⟩
      obtain ⟨i, hi⟩ := List.getElem?_of_mem hq
      exact HZ.out i q (by have := (List.getElem?_eq_some_iff.1 hi).1; omega) hi
set_option maxHeartbeats 400000 in
theorem find_says {d : Nat} {w : World} (name : ByteArray) (l : List (ByteArray × V)) (al : Option Addr) (cl : Nat) (hl : l.length ≤ maxLen) (hL : FAt d w l al) :
    Calls Tryz.prog 92 #[.slice al l.length cl, .string name] w fun e w' => (∃ r : Int, e = .returned (.int .i64 r) ∧ FirstAt (fun n => n.toList == name.toList) l r) ∧ Below w.heap.size w w' := by
  have H := hid (fun w1 (h : Below w.heap.size w w1) B hB => index_isName (w := w1) name l al cl B hl (FAt.later hL h) hB)
  clear hL
  go_enter Tryz.func92, Tryz.ntmps92
  go_wp2_with (go_at_call 93; refine (H.out _ (by go_grown) w.heap.size (At.new _ _ _ rfl)).mono ?_; rintro e w1 ⟨⟨r, rfl, hr⟩, hb1⟩; have HR := hid hr; clear hr)
  go_ret
  exact ⟨⟨r, rfl, HR.out⟩, Below.trans (by go_grown) (hb1.mono (by simp))⟩
end Go.Proofs.YtefbfgcbbpmhlabGreatDoor
