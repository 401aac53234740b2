/-
  Joined: Vc, Ve, Vd1.
-/
import Derived.Test.YtefbfgcbbpmhlabGreatDoorYc

/-
  Contracts over values that only look: whether one is light (some answer), how many parts it has and how deep it is, names.
-/
namespace Go.Proofs.YtefbfgcbbpmhlabGreatDoor
open Go.RowKit
set_option maxRecDepth 100000

set_option maxHeartbeats 1000000 in
theorem parts_step (d : Nat)
    (ih : ∀ (v : V) (cs : List Value) (w : World), RepN d w v cs → v.cnt ≤ 1048576 → Calls Tryz.prog 134 #[.agg cs.toArray] w fun e w' => e = .returned (.tuple #[.int .i64 (v.cnt : Int), .int .i64 (v.dep : Int)]) ∧ Below w.heap.size w w')
    (v : V) (cs : List Value) (w : World) (hv : RepN (d + 1) w v cs) (hb : v.cnt ≤ 1048576) :
    Calls Tryz.prog 134 #[.agg cs.toArray] w fun e w' => e = .returned (.tuple #[.int .i64 (v.cnt : Int), .int .i64 (v.dep : Int)]) ∧ Below w.heap.size w w' := by
  obtain ⟨al, af, cl, cf, rfl, ⟨hs, hl, hf⟩, hL, hF⟩ := hv
  unfold maxLen at hs hl hf
  have HL := hid hL
  have HF := hid hF
  clear hL hF
  have hdc := dep_le_cnt v
  rw [cnt_eq, dep_eq] at *
  generalize hCL : cntL v.l = CL at *
  generalize hCF : cntF v.f = CF at *
  generalize hDL : depL v.l = DL at *
  generalize hDF : depF v.f = DF at *
  have HC := hid (And.intro hCL (And.intro hCF (And.intro hDL hDF)))
  clear hCL hCF hDL hDF
  go_enter Tryz.func134, Tryz.ntmps134
  go_wp2_with fail
  go_loopw [4, 5, 6] (fun t u i wr => ∃ j z y : Nat, i = .int .i64 j ∧ t = .int .i64 z ∧ u = .int .i64 y ∧ j ≤ v.l.length ∧ (z = 1 + cntL (v.l.take j) ∧ y = depL (v.l.take j)) ∧ BoxV wr w.heap.size v al af cl cf ∧ Below w.heap.size w wr) (fun _ _ i _ => v.l.length - (intOf i).toNat)
  case atStart => exact ⟨0, 1, 0, rfl, rfl, rfl, Nat.zero_le _, by simp [cntL, depL], At.new _ _ _ rfl, by go_grown⟩
  case round =>
    obtain ⟨j, z, y, rfl, rfl, rfl, hj, hzy, hA, hB⟩ := hrel
    have hz1 : z ≤ 1 + CL := by have := cntL_take_le v.l j; have := HC.out.1; omega
    have hy1 : y ≤ DL := by have := depL_take_le v.l j; have := HC.out.2.2.1; omega
    have HZ := hid hzy
    clear hzy
    have mc := hA.cell
    have mz := hA.lt
    by_cases hjl : j < v.l.length
    · have hjl' : (j : Int) < v.l.length := by omega
      obtain ⟨b, off, c, rfl, hbl, hc, hr⟩ := HL.out j v.l[j] (List.getElem?_eq_getElem hjl)
      have T1 := hid (cntL_take v.l j v.l[j] (List.getElem?_eq_getElem hjl))
      have T2 := hid (depL_take v.l j v.l[j] (List.getElem?_eq_getElem hjl))
      have hc1 : z + v.l[j].cnt ≤ 1 + CL := by have := cntL_take_le v.l (j + 1); have := HC.out.1; have := T1.out; have := HZ.out; omega
      have hd1 : max y v.l[j].dep ≤ DL := by have := depL_take_le v.l (j + 1); have := HC.out.2.2.1; have := T2.out; have := HZ.out; omega
      have hr' := hr.later (hB : Below w.heap.size w wr)
      have hbr : b < wr.heap.size := Nat.lt_of_lt_of_le hbl hB.size
      obtain ⟨k1, n1, s1, a1, l1, c1, a2, l2, c2, rfl, g0, g1, g2, g3, g4⟩ := rep_cells hr' (hc.later hbl hB)
      have HR := hid hr'
      clear hr hr' hc
      generalize hX : v.l[j] = X at *
      generalize hXc : X.cnt = xc at *
      generalize hXd : X.dep = xd at *
      have HX := hid (And.intro hXc hXd)
      clear hX hXc hXd
      go_wp2_with (go_at_call 134; refine (ih X _ _ HR.out (by have := HX.out; omega)).mono ?_; rw [HX.out.1, HX.out.2]; rintro e w1 ⟨rfl, hb1⟩)
      all_goals go_roundw
      case rel =>
        refine ⟨j + 1, z + xc, max y xd, by go_num, by go_num, by go_num, by omega, ?_, hA.later hb1, hB.trans (hb1.mono hB.size)⟩
        have := HZ.out; have := T1.out; have := T2.out
        omega
      case measure => simp [intOf]; omega
    · have hjl' : ¬ (j : Int) < v.l.length := by omega
      have hje : j = v.l.length := by omega
      have HZ' : z = 1 + CL ∧ y = DL := by have h1 := HZ.out; have h2 := HC.out; rw [hje, List.take_length] at h1; omega
      obtain ⟨hz2, hy2⟩ := HZ'
      subst hz2
      have hy3 := hy2.symm
      subst hy3
      clear HZ hz1 hy1
      go_wp2_with fail
      go_loopw [4, 5, 9] (fun t u i wr => ∃ j z y : Nat, i = .int .i64 j ∧ t = .int .i64 z ∧ u = .int .i64 y ∧ j ≤ v.f.length ∧ (z = 1 + CL + cntF (v.f.take j) ∧ y = max DL (depF (v.f.take j))) ∧ BoxV wr w.heap.size v al af cl cf ∧ Below w.heap.size w wr) (fun _ _ i _ => v.f.length - (intOf i).toNat)
      case atStart => exact ⟨0, 1 + CL, DL, rfl, rfl, rfl, Nat.zero_le _, by simp [cntF, depF], hA, hB⟩
      case round =>
        clear hA hB mc mz
        obtain ⟨p, z, y, rfl, rfl, rfl, hp, hzy, hA, hB⟩ := hrel
        have hz1 : z ≤ 1 + CL + CF := by have := cntF_take_le v.f p; have := HC.out.2.1; omega
        have hy1 : y ≤ max DL DF := by have := depF_take_le v.f p; have := HC.out.2.2.2; omega
        have HZ := hid hzy
        clear hzy
        have mc := hA.cell
        have mz := hA.lt
        by_cases hpl : p < v.f.length
        · have hpl' : (p : Int) < v.f.length := by omega
          obtain ⟨b, off, c, rfl, hbl, hnm, hcn, hc, hr⟩ := HF.out p v.f[p] (List.getElem?_eq_getElem hpl)
          have T1 := hid (cntF_take v.f p v.f[p] (List.getElem?_eq_getElem hpl))
          have T2 := hid (depF_take v.f p v.f[p] (List.getElem?_eq_getElem hpl))
          have hc1 : z + v.f[p].2.cnt ≤ 1 + CL + CF := by have := cntF_take_le v.f (p + 1); have := HC.out.2.1; have := T1.out; have := HZ.out; omega
          have hd1 : max y v.f[p].2.dep ≤ max DL DF := by have := depF_take_le v.f (p + 1); have := HC.out.2.2.2; have := T2.out; have := HZ.out; omega
          have hr' := hr.later (hB : Below w.heap.size w wr)
          have hbr : b < wr.heap.size := Nat.lt_of_lt_of_le hbl hB.size
          obtain ⟨k1, n1, s1, a1, l1, c1, a2, l2, c2, rfl, g0, g1, g2, g3, g4⟩ := rep_cells hr' (hc.later hbl hB)
          have HR := hid hr'
          clear hr hr' hc hcn hnm
          generalize hX : v.f[p].2 = X at *
          generalize hXc : X.cnt = xc at *
          generalize hXd : X.dep = xd at *
          have HX := hid (And.intro hXc hXd)
          clear hX hXc hXd
          go_wp2_with (go_at_call 134; refine (ih X _ _ HR.out (by have := HX.out; omega)).mono ?_; rw [HX.out.1, HX.out.2]; rintro e w1 ⟨rfl, hb1⟩)
          all_goals go_roundw
          case rel =>
            refine ⟨p + 1, z + xc, max y xd, by go_num, by go_num, by go_num, by omega, ?_, hA.later hb1, hB.trans (hb1.mono hB.size)⟩
            have := HZ.out; have := T1.out; have := T2.out
            omega
          case measure => simp [intOf]; omega
        · have hpl' : ¬ (p : Int) < v.f.length := by omega
          have hpe : p = v.f.length := by omega
          have HZ' : z = 1 + CL + CF ∧ y = max DL DF := by have h1 := HZ.out; have h2 := HC.out; rw [hpe, List.take_length] at h1; omega
          obtain ⟨rfl, rfl⟩ := HZ'
          clear HZ hz1 hy1
          go_wp2_with fail
          go_ret2
          exact ⟨by congr 3; go_num, hB⟩
theorem parts_says (d : Nat) : ∀ (v : V) (cs : List Value) (w : World), RepN d w v cs → v.cnt ≤ 1048576 → Calls Tryz.prog 134 #[.agg cs.toArray] w fun e w' => e = .returned (.tuple #[.int .i64 (v.cnt : Int), .int .i64 (v.dep : Int)]) ∧ Below w.heap.size w w' := by
  induction d with
  | zero => intro v cs w h; exact h.elim
  | succ d ih => exact fun v cs w h => parts_step d ih v cs w h
end Go.Proofs.YtefbfgcbbpmhlabGreatDoor

/-
  What may be: values: the document's own answer (look only).
-/
namespace Go.Proofs.YtefbfgcbbpmhlabGreatDoor
open Go.RowKit
set_option maxRecDepth 100000

/-- One name rises above another one. -/
def risesB (p q : ByteArray) : Bool := !(Op.bytesLess q.toList p.toList || q.toList == p.toList)
/-- Names that may be, and rise. -/
def Names (f : List (ByteArray × V)) : Prop := ∀ (i : Nat) (q : ByteArray × V), f[i]? = some q → nmOk q.1 = true ∧ ∀ (j : Nat) (p : ByteArray × V), i = j + 1 → f[j]? = some p → risesB p.1 q.1 = true
def Own (v : V) : Prop :=
  (v.k = 0 ∧ v.n = 0 ∧ v.s.size = 0 ∧ v.l.length = 0 ∧ v.f.length = 0) ∨
  (v.k = 1 ∧ (v.n = 0 ∨ v.n = 1) ∧ v.s.size = 0 ∧ v.l.length = 0 ∧ v.f.length = 0) ∨
  (v.k = 2 ∧ okF v.n = true ∧ v.s.size = 0 ∧ v.l.length = 0 ∧ v.f.length = 0) ∨
  (v.k = 3 ∧ v.n = 0 ∧ v.s.size ≤ 200 ∧ v.l.length = 0 ∧ v.f.length = 0) ∨
  (v.k = 4 ∧ v.n = 0 ∧ nmOk v.s = true ∧ v.l.length = 0 ∧ v.f.length = 0) ∨
  (v.k = 5 ∧ v.n = 0 ∧ v.s.size = 0 ∧ v.f.length = 0) ∨
  (v.k = 6 ∧ v.n = 0 ∧ v.s.size = 0 ∧ v.l.length = 0 ∧ Names v.f) ∨
  (v.k = 7 ∧ 1 ≤ v.n ∧ v.n ≤ 60 ∧ v.s.size = 0 ∧ v.l.length = 0 ∧ v.f.length = 0)
mutual
/-- It, and all that is in it, may be. -/
def V.Shp : V → Prop
  | ⟨k, n, s, l, f⟩ => Own ⟨k, n, s, l, f⟩ ∧ ShpL l ∧ ShpF f
def ShpL : List V → Prop
  | [] => True
  | x :: l => V.Shp x ∧ ShpL l
def ShpF : List (ByteArray × V) → Prop
  | [] => True
  | q :: l => ShpP q ∧ ShpF l
def ShpP : ByteArray × V → Prop
  | (_, x) => V.Shp x
end
theorem shp_eq (v : V) : v.Shp ↔ Own v ∧ ShpL v.l ∧ ShpF v.f := by cases v; rw [V.Shp]
theorem shpL_iff : ∀ (l : List V), ShpL l ↔ ∀ (i : Nat) (x : V), l[i]? = some x → x.Shp
  | [] => by simp [ShpL]
  | y :: l => by
    rw [ShpL, shpL_iff l]
    refine ⟨fun h i x hx => ?_, fun h => ⟨h 0 y rfl, fun i x hx => h (i + 1) x (by simpa using hx)⟩⟩
    cases i with
    | zero => simp at hx; subst hx; exact h.1
    | succ i => exact h.2 i x (by simpa using hx)
theorem shpF_iff : ∀ (l : List (ByteArray × V)), ShpF l ↔ ∀ (i : Nat) (q : ByteArray × V), l[i]? = some q → q.2.Shp
  | [] => by simp [ShpF]
  | y :: l => by
    rw [ShpF, shpF_iff l]
    have e : ShpP y ↔ y.2.Shp := by cases y; rw [ShpP]
    rw [e]
    refine ⟨fun h i x hx => ?_, fun h => ⟨h 0 y rfl, fun i x hx => h (i + 1) x (by simpa using hx)⟩⟩
    cases i with
    | zero => simp at hx; subst hx; exact h.1
    | succ i => exact h.2 i x (by simpa using hx)
theorem own_names {v : V} (h : Own v) : Names v.f := by
  have nil : v.f.length = 0 → Names v.f := fun e i q hq => by
    rw [List.eq_nil_of_length_eq_zero e] at hq; simp at hq
  rcases h with h | h | h | h | h | h | h | h
  · exact nil h.2.2.2.2
  · exact nil h.2.2.2.2
  · exact nil h.2.2.2.2
  · exact nil h.2.2.2.2
  · exact nil h.2.2.2.2
  · exact nil h.2.2.2
  · exact h.2.2.2.2
  · exact nil h.2.2.2.2.2

theorem own0 {v : V} (h : v.k = 0) : Own v ↔ v.n = 0 ∧ v.s.size = 0 ∧ v.l.length = 0 ∧ v.f.length = 0 := by simp [Own, h]
theorem own1 {v : V} (h : v.k = 1) : Own v ↔ (v.n = 0 ∨ v.n = 1) ∧ v.s.size = 0 ∧ v.l.length = 0 ∧ v.f.length = 0 := by simp [Own, h]
theorem own2 {v : V} (h : v.k = 2) : Own v ↔ okF v.n = true ∧ v.s.size = 0 ∧ v.l.length = 0 ∧ v.f.length = 0 := by simp [Own, h]
theorem own3 {v : V} (h : v.k = 3) : Own v ↔ v.n = 0 ∧ v.s.size ≤ 200 ∧ v.l.length = 0 ∧ v.f.length = 0 := by simp [Own, h]
theorem own4 {v : V} (h : v.k = 4) : Own v ↔ v.n = 0 ∧ nmOk v.s = true ∧ v.l.length = 0 ∧ v.f.length = 0 := by simp [Own, h]
theorem own5 {v : V} (h : v.k = 5) : Own v ↔ v.n = 0 ∧ v.s.size = 0 ∧ v.f.length = 0 := by simp [Own, h]
theorem own6 {v : V} (h : v.k = 6) : Own v ↔ v.n = 0 ∧ v.s.size = 0 ∧ v.l.length = 0 ∧ Names v.f := by simp [Own, h]
theorem own7 {v : V} (h : v.k = 7) : Own v ↔ 1 ≤ v.n ∧ v.n ≤ 60 ∧ v.s.size = 0 ∧ v.l.length = 0 ∧ v.f.length = 0 := by simp [Own, h]
theorem own8 {v : V} (h : v.k < 0 ∨ 7 < v.k) : ¬ Own v := by
  intro o
  rcases o with o | o | o | o | o | o | o | o <;> omega
theorem toList_nil (s : ByteArray) : s.toList = [] ↔ s.size = 0 := by
  rw [ByteArray.toList_eq, ← List.length_eq_zero_iff]
  simp

theorem below_drew {B : Nat} {w w' : World} (h : Below B w w') : Below B w w'.drew := h.trans ((Below.refl _ w').drew)
set_option maxHeartbeats 4000000 in
theorem shaped_step (d : Nat)
    (ih : ∀ (v : V) (cs : List Value) (w : World), RepN d w v cs → Calls Tryz.prog 135 #[.agg cs.toArray] w fun e w' => AnsB e v.Shp ∧ Below w.heap.size w w')
    (v : V) (cs : List Value) (w : World) (hv : RepN (d + 1) w v cs) :
    Calls Tryz.prog 135 #[.agg cs.toArray] w fun e w' => AnsB e v.Shp ∧ Below w.heap.size w w' := by
  obtain ⟨al, af, cl, cf, rfl, ⟨hs, hl, hf⟩, hL, hF⟩ := hv
  unfold maxLen at hl hf
  have HL := hid hL
  have HF := hid hF
  clear hL hF
  go_enter Tryz.func135, Tryz.ntmps135
  go_wp2_with fail
  go_loopw [3] (fun i wr => ∃ j : Nat, i = .int .i64 j ∧ j ≤ v.l.length ∧ (∀ (i : Nat) (x : V), i < j → v.l[i]? = some x → x.Shp) ∧ BoxV wr w.heap.size v al af cl cf ∧ Below w.heap.size w wr) (fun i _ => v.l.length - (intOf i).toNat)
  case atStart => exact ⟨0, rfl, Nat.zero_le _, fun i x hi => by omega, At.new _ _ _ rfl, by go_grown⟩
  case round =>
    obtain ⟨j, rfl, hj, hsh, hA, hB⟩ := hrel
    have HZ := hid hsh
    clear hsh
    have mc := hA.cell
    have mz := hA.lt
    by_cases hjl : j < v.l.length
    · have hjl' : (j : Int) < v.l.length := by omega
      obtain ⟨b, off, c, rfl, hbl, hc, hr⟩ := HL.out j v.l[j] (List.getElem?_eq_getElem hjl)
      have hr' := hr.later (hB : Below w.heap.size w wr)
      have hbr : b < wr.heap.size := Nat.lt_of_lt_of_le hbl hB.size
      obtain ⟨k1, n1, s1, a1, l1, c1, a2, l2, c2, rfl, g0, g1, g2, g3, g4⟩ := rep_cells hr' (hc.later hbl hB)
      have HR := hid hr'
      clear hr hr' hc
      go_wp2_with (go_at_call 135; refine (ih v.l[j] _ _ HR.out).mono ?_; rintro e w1 ⟨(⟨rfl, hr1⟩ | ⟨rfl, hr1⟩), hb1⟩ <;> (have HR1 := hid hr1; clear hr1))
      · go_roundw
        case rel =>
          refine ⟨j + 1, by go_num, by omega, fun i x hi hx => ?_, hA.later hb1, hB.trans (hb1.mono hB.size)⟩
          by_cases hij : i = j
          · subst hij
            rw [List.getElem?_eq_getElem hjl] at hx
            cases hx
            exact HR1.out
          · exact HZ.out i x (by omega) hx
        case measure => simp [intOf]; omega
      · go_ret
        exact ⟨.no fun h => HR1.out ((shpL_iff _).1 ((shp_eq v).1 h).2.1 j _ (List.getElem?_eq_getElem hjl)), hB.trans (hb1.mono hB.size)⟩
    · have hjl' : ¬ (j : Int) < v.l.length := by omega
      have HZL := hid ((shpL_iff v.l).2 fun i x hx => HZ.out i x (by have := (List.getElem?_eq_some_iff.1 hx).1; omega) hx)
      clear HZ
      go_wp2_with fail
      go_loopw [5] (fun i wr => ∃ j : Nat, i = .int .i64 j ∧ j ≤ v.f.length ∧ (∀ (i : Nat) (q : ByteArray × V), i < j → v.f[i]? = some q → q.2.Shp ∧ nmOk q.1 = true ∧ ∀ (j : Nat) (p : ByteArray × V), i = j + 1 → v.f[j]? = some p → risesB p.1 q.1 = true) ∧ BoxV wr w.heap.size v al af cl cf ∧ Below w.heap.size w wr) (fun i _ => v.f.length - (intOf i).toNat)
      case atStart => exact ⟨0, rfl, Nat.zero_le _, fun i x hi => by omega, hA, hB⟩
      case round =>
        clear hA hB mc mz
        obtain ⟨p, rfl, hp, hsh, hA, hB⟩ := hrel
        have HZ := hid hsh
        clear hsh
        have mc := hA.cell
        have mz := hA.lt
        by_cases hpl : p < v.f.length
        · have hpl' : (p : Int) < v.f.length := by omega
          obtain ⟨b, off, c, rfl, hbl, hnm, hcn, hc, hr⟩ := HF.out p v.f[p] (List.getElem?_eq_getElem hpl)
          have hr' := hr.later (hB : Below w.heap.size w wr)
          have hbr : b < wr.heap.size := Nat.lt_of_lt_of_le hbl hB.size
          obtain ⟨k1, n1, s1, a1, l1, c1, a2, l2, c2, rfl, g0, g1, g2, g3, g4⟩ := rep_cells hr' (hc.later hbl hB)
          have hcn' := (hB.cell (p := ⟨b, off + p * 6, none⟩) hbl).trans hcn
          have HR := hid hr'
          clear hr hr' hc hcn
          have bad : ¬ (v.f[p].2.Shp ∧ nmOk v.f[p].1 = true ∧ ∀ (j : Nat) (q : ByteArray × V), p = j + 1 → v.f[j]? = some q → risesB q.1 v.f[p].1 = true) → ¬ v.Shp := fun h hv => h ⟨(shpF_iff _).1 ((shp_eq v).1 hv).2.2 p _ (List.getElem?_eq_getElem hpl), own_names ((shp_eq v).1 hv).1 p _ (List.getElem?_eq_getElem hpl)⟩
          have BAD := hid bad
          clear bad
          by_cases hp0 : p = 0
          · subst hp0
            have hc0 : wr.cell? ⟨b, off, none⟩ = some (.string v.f[0].1) := by simpa using hcn'
            clear hcn'
            cases hok : nmOk v.f[0].1
            all_goals
              have HOK := hid hok
              clear hok
              go_wp2_with (first
                | (go_at_call 135; refine (ih v.f[0].2 _ _ HR.out).mono ?_; rintro e w1 ⟨(⟨rfl, hr1⟩ | ⟨rfl, hr1⟩), hb1⟩ <;> (have HR1 := hid hr1; clear hr1; have x1 := hb1.cell (p := ⟨b, off, none⟩) hbr; have x2 := fun o => hb1.cell (p := ⟨w.heap.size, o, none⟩) mz))
                | (go_at_call 193; refine (rNameMay v.f[0].1 _ hnm).mono ?_; rw [HOK.out]; rintro e w2 ⟨rfl, rfl⟩))
              all_goals go_region
              all_goals go_wp2_with fail
              all_goals first
                | (go_ret; exact ⟨.no (BAD.out fun h => by first | exact absurd (HOK.out.symm.trans h.2.1) Bool.false_ne_true | exact HR1.out h.1), hB.trans ((below_drew hb1).mono hB.size)⟩)
                | (go_roundw
                   case rel =>
                     refine ⟨1, by go_num, by omega, fun i x hi hx => ?_, hA.later (below_drew hb1), hB.trans ((below_drew hb1).mono hB.size)⟩
                     obtain rfl : i = 0 := by omega
                     rw [List.getElem?_eq_getElem hpl] at hx
                     cases hx
                     exact ⟨HR1.out, HOK.out, fun j p e => by omega⟩
                   case measure => simp [intOf]; omega)
          · obtain ⟨q, hq⟩ : ∃ q, p = q + 1 := ⟨p - 1, by omega⟩
            have hql : q < v.f.length := by omega
            obtain ⟨b2, off2, c2', e2, hbl2, hnm2, hcn2, _, _⟩ := HF.out q v.f[q] (List.getElem?_eq_getElem hql)
            cases e2
            have hcq := (hB.cell (p := ⟨b, off + q * 6, none⟩) hbl).trans hcn2
            clear hcn2
            subst hq
            have hq0 : (0 : Int) < q + 1 := by omega
            cases hok : nmOk v.f[q + 1].1
            all_goals
              have HOK := hid hok
              clear hok
              cases hle : (Op.bytesLess v.f[q + 1].1.toList v.f[q].1.toList || v.f[q + 1].1.toList == v.f[q].1.toList)
              all_goals
                have HLE := hid (show risesB v.f[q].1 v.f[q + 1].1 = _ from congrArg Bool.not hle)
                go_wp2_with (first
                  | (go_at_call 135; refine (ih v.f[q + 1].2 _ _ HR.out).mono ?_; rintro e w1 ⟨(⟨rfl, hr1⟩ | ⟨rfl, hr1⟩), hb1⟩ <;> (have HR1 := hid hr1; clear hr1; have x1 := hb1.cell (p := ⟨b, off + (q + 1) * 6, none⟩) hbr; have x3 := hb1.cell (p := ⟨b, off + q * 6, none⟩) hbr; have x2 := fun o => hb1.cell (p := ⟨w.heap.size, o, none⟩) mz))
                  | (go_at_call 193; refine (rNameMay v.f[q + 1].1 _ hnm).mono ?_; rw [HOK.out]; rintro e w2 ⟨rfl, rfl⟩))
                all_goals go_region
                all_goals go_wp2_with fail
                all_goals first
                  | (go_ret; exact ⟨.no (BAD.out fun h => by first | exact absurd (HOK.out.symm.trans h.2.1) Bool.false_ne_true | exact HR1.out h.1 | exact absurd (HLE.out.symm.trans (h.2.2 q _ rfl (List.getElem?_eq_getElem hql))) Bool.false_ne_true), hB.trans ((below_drew hb1).mono hB.size)⟩)
                  | (go_roundw
                     case rel =>
                       refine ⟨q + 1 + 1, by go_num, by omega, fun i x hi hx => ?_, hA.later (below_drew hb1), hB.trans ((below_drew hb1).mono hB.size)⟩
                       by_cases hiq : i = q + 1
                       · subst hiq
                         rw [List.getElem?_eq_getElem hpl] at hx
                         cases hx
                         refine ⟨HR1.out, HOK.out, fun j p e hpq => ?_⟩
                         have ejq : j = q := by omega
                         rw [ejq, List.getElem?_eq_getElem hql] at hpq
                         cases hpq
                         exact HLE.out
                       · exact HZ.out i x (by omega) hx
                     case measure => simp [intOf]; omega)
        · have hpl' : ¬ (p : Int) < v.f.length := by omega
          have HZF := hid ((shpF_iff v.f).2 fun i x hx => (HZ.out i x (by have := (List.getElem?_eq_some_iff.1 hx).1; omega) hx).1)
          have HZN := hid (show Names v.f from fun i x hx => (HZ.out i x (by have := (List.getElem?_eq_some_iff.1 hx).1; omega) hx).2)
          clear HZ
          have fin : v.Shp ↔ Own v := by rw [shp_eq]; exact ⟨fun h => h.1, fun h => ⟨h, HZL.out, HZF.out⟩⟩
          have HFIN := hid fin
          clear fin
          generalize hll : v.l.length = ll at *
          generalize hlf : v.f.length = lf at *
          have HLL := hid hll
          have HLF := hid hlf
          clear hll hlf
          by_cases hse : v.s.toList = []
          all_goals
            first
              | have hsz : v.s.size = 0 := (toList_nil _).1 hse
              | have hsz : ¬ v.s.size = 0 := fun h => hse ((toList_nil _).2 h)
            by_cases hk : v.k = 0
            · go_wp2_with fail
              all_goals go_ret
              all_goals refine ⟨AnsB.of ?_, hB⟩
              all_goals rw [HFIN.out, own0 hk, HLL.out, HLF.out]
              all_goals first | (simp only [Bool.false_eq_true, false_iff]; omega) | (simp only [beq_iff_eq]; omega) | (simp only [true_iff]; omega)
            by_cases hk1 : v.k = 1
            · go_wp2_with fail
              all_goals go_ret
              all_goals refine ⟨AnsB.of ?_, hB⟩
              all_goals rw [HFIN.out, own1 hk1, HLL.out, HLF.out]
              all_goals first | (simp only [Bool.false_eq_true, false_iff]; omega) | (simp only [beq_iff_eq]; omega) | (simp only [true_iff]; omega)
            by_cases hk2 : v.k = 2
            · cases hok : okF v.n
              all_goals
                first
                  | have hfl := flt_ok hok
                  | have hfl := flt_bad hok
                have HOK := hid hok
                clear hok
                go_wp2_with (go_at_call 194; refine (fault_any v.n _).mono ?_; rw [hfl]; rintro e w1 ⟨rfl, rfl⟩)
                all_goals go_ret
                all_goals refine ⟨AnsB.of ?_, hB⟩
                all_goals rw [HFIN.out, own2 hk2, HOK.out, HLL.out, HLF.out]
                all_goals simp only [Bool.false_eq_true, false_and, true_and]
                all_goals first | (simp only [beq_iff_eq]; omega) | omega | (simp only [false_iff]; omega) | (simp only [true_iff]; omega) | (simp only [iff_self]; done)
            by_cases hk3 : v.k = 3
            · go_wp2_with fail
              all_goals go_ret
              all_goals refine ⟨AnsB.of ?_, hB⟩
              all_goals rw [HFIN.out, own3 hk3, HLL.out, HLF.out]
              all_goals first | (simp only [Bool.false_eq_true, false_iff]; omega) | (simp only [beq_iff_eq]; omega) | (simp only [true_iff]; omega)
            by_cases hk4 : v.k = 4
            · cases hok : nmOk v.s
              all_goals
                have HOK := hid hok
                clear hok
                go_wp2_with (go_at_call 193; refine (rNameMay v.s _ hs).mono ?_; rw [HOK.out]; rintro e w1 ⟨rfl, rfl⟩)
                all_goals go_ret
                all_goals refine ⟨AnsB.of ?_, hB⟩
                all_goals rw [HFIN.out, own4 hk4, HOK.out, HLL.out, HLF.out]
                all_goals simp only [Bool.false_eq_true, false_and, true_and, and_false]
                all_goals first | (simp only [beq_iff_eq]; omega) | omega | (simp only [false_iff]; omega) | (simp only [true_iff]; omega) | (simp only [iff_self]; done)
            by_cases hk5 : v.k = 5
            · go_wp2_with fail
              all_goals go_ret
              all_goals refine ⟨AnsB.of ?_, hB⟩
              all_goals rw [HFIN.out, own5 hk5, HLF.out]
              all_goals first | (simp only [Bool.false_eq_true, false_iff]; omega) | (simp only [beq_iff_eq]; omega) | (simp only [true_iff]; omega)
            by_cases hk6 : v.k = 6
            · go_wp2_with fail
              all_goals go_ret
              all_goals refine ⟨AnsB.of ?_, hB⟩
              all_goals rw [HFIN.out, own6 hk6, iff_true_intro HZN.out, HLL.out]
              all_goals simp only [and_true]
              all_goals first | (simp only [Bool.false_eq_true, false_iff]; omega) | (simp only [beq_iff_eq]; omega) | (simp only [true_iff]; omega)
            by_cases hk7 : v.k = 7
            · go_wp2_with fail
              all_goals go_ret
              all_goals refine ⟨AnsB.of ?_, hB⟩
              all_goals rw [HFIN.out, own7 hk7, HLL.out, HLF.out]
              all_goals first | (simp only [Bool.false_eq_true, false_iff]; omega) | (simp only [beq_iff_eq]; omega) | (simp only [true_iff]; omega)
            go_wp2_with fail
            go_ret
            exact ⟨.no (by rw [HFIN.out]; exact own8 (by first | omega)), hB⟩
theorem shaped_says (d : Nat) : ∀ (v : V) (cs : List Value) (w : World), RepN d w v cs → Calls Tryz.prog 135 #[.agg cs.toArray] w fun e w' => AnsB e v.Shp ∧ Below w.heap.size w w' := by
  induction d with
  | zero => intro v cs w h; exact h.elim
  | succ d ih => exact fun v cs w h => shaped_step d ih v cs w h
end Go.Proofs.YtefbfgcbbpmhlabGreatDoor

/-
  Names in order; what a dictionary is behind a field was set. No walk.
-/
namespace Go.Proofs.YtefbfgcbbpmhlabGreatDoor
open Go.RowKit
set_option maxRecDepth 100000

theorem bl_irrefl : ∀ x : List UInt8, Op.bytesLess x x = false
  | [] => rfl
  | a :: x => by simp [Op.bytesLess, bl_irrefl x]
theorem bl_trans : ∀ x y z : List UInt8, Op.bytesLess x y = true → Op.bytesLess y z = true → Op.bytesLess x z = true
  | x, [], z, h, _ => by cases x <;> simp [Op.bytesLess] at h
  | x, _ :: _, [], _, h => by simp [Op.bytesLess] at h
  | [], b :: y, c :: z, _, _ => rfl
  | a :: x, b :: y, c :: z, h1, h2 => by
    have ih := bl_trans x y z
    simp only [Op.bytesLess, Bool.or_eq_true, Bool.and_eq_true, decide_eq_true_eq, beq_iff_eq, UInt8.lt_iff_toNat_lt] at *
    rcases h1 with h1 | ⟨rfl, h1⟩
    · rcases h2 with h2 | ⟨rfl, h2⟩
      · exact .inl (by omega)
      · exact .inl h1
    · rcases h2 with h2 | ⟨rfl, h2⟩
      · exact .inl h2
      · exact .inr ⟨rfl, ih h1 h2⟩
theorem bl_tri : ∀ x y : List UInt8, Op.bytesLess x y = true ∨ x = y ∨ Op.bytesLess y x = true
  | [], [] => .inr (.inl rfl)
  | [], _ :: _ => .inl rfl
  | _ :: _, [] => .inr (.inr rfl)
  | a :: x, b :: y => by
    have ih := bl_tri x y
    simp only [Op.bytesLess, Bool.or_eq_true, Bool.and_eq_true, decide_eq_true_eq, beq_iff_eq, UInt8.lt_iff_toNat_lt, List.cons.injEq]
    rcases Nat.lt_trichotomy a.toNat b.toNat with h | h | h
    · exact .inl (.inl h)
    · have e := UInt8.toNat_inj.1 h
      subst e
      rcases ih with h | h | h
      · exact .inl (.inr ⟨rfl, h⟩)
      · exact .inr (.inl ⟨rfl, h⟩)
      · exact .inr (.inr (.inr ⟨rfl, h⟩))
    · exact .inr (.inr (.inl h))
theorem toList_eq {a b : ByteArray} (h : a.toList = b.toList) : a = b := by
  rw [ByteArray.toList_eq, ByteArray.toList_eq] at h
  cases a; cases b; simp_all
/-- One name is below another one. -/
def Lt (a b : ByteArray) : Prop := Op.bytesLess a.toList b.toList = true
theorem Lt.trans {a b c : ByteArray} (h : Lt a b) (k : Lt b c) : Lt a c := bl_trans _ _ _ h k
theorem Lt.ne {a b : ByteArray} (h : Lt a b) : a ≠ b := fun e => by subst e; unfold Lt at h; rw [bl_irrefl] at h; cases h
theorem Lt.not {a b : ByteArray} (h : Lt a b) : ¬ Lt b a := fun k => (h.trans k).ne rfl
theorem lt_tri (a b : ByteArray) : Lt a b ∨ a = b ∨ Lt b a := by
  rcases bl_tri a.toList b.toList with h | h | h
  · exact .inl h
  · exact .inr (.inl (toList_eq h))
  · exact .inr (.inr h)
theorem rises_iff {p q : ByteArray} : risesB p q = true ↔ Lt p q := by
  unfold risesB
  rcases lt_tri p q with h | h | h
  · have n1 : Op.bytesLess q.toList p.toList = false := by have := h.not; unfold Lt at this; simpa using this
    have n2 : (q.toList == p.toList) = false := by simpa using fun e => h.ne (toList_eq e).symm
    rw [n1, n2]; exact iff_of_true rfl h
  · subst h
    refine iff_of_false (by simp) (fun h => h.ne rfl)
  · have : Op.bytesLess q.toList p.toList = true := h
    rw [this]; exact iff_of_false (by simp) h.not
/-- 'name is not above q', as the program asks it. -/
def leB (name q : ByteArray) : Bool := Op.bytesLess name.toList q.toList || name.toList == q.toList
theorem leB_iff {a b : ByteArray} : leB a b = true ↔ Lt a b ∨ a = b := by
  unfold leB Lt
  rw [Bool.or_eq_true, beq_iff_eq]
  exact or_congr Iff.rfl ⟨toList_eq, fun h => by rw [h]⟩
theorem leB_not {a b : ByteArray} (h : Lt b a) : leB a b = false := by
  cases hh : leB a b
  · rfl
  · rcases leB_iff.1 hh with k | k
    · exact absurd k h.not
    · exact absurd k.symm h.ne
theorem names_pw : ∀ {f : List (ByteArray × V)}, Names f → f.Pairwise fun p q => Lt p.1 q.1
  | [], _ => List.Pairwise.nil
  | q :: l, h => by
    have ht : Names l := fun i p hp => by
      have := h (i + 1) p (by simpa using hp)
      exact ⟨this.1, fun j r e hr => this.2 (j + 1) r (by omega) (by simpa using hr)⟩
    have ih := names_pw ht
    refine List.pairwise_cons.2 ⟨fun p hp => ?_, ih⟩
    cases l with
    | nil => simp at hp
    | cons p0 l =>
      have h0 : Lt q.1 p0.1 := rises_iff.1 ((h 1 p0 rfl).2 0 q rfl rfl)
      rcases List.mem_cons.1 hp with rfl | hp
      · exact h0
      · exact h0.trans ((List.pairwise_cons.1 ih).1 p hp)
section
variable (name : ByteArray) (x : V)
/-- What the document's own setting makes, field by field. -/
def rsetF : List (ByteArray × V) → Bool → List (ByteArray × V)
  | [], laid => if laid then [] else [(name, x)]
  | q :: l, laid => (if !laid && leB name q.1 then [(name, x)] else []) ++ (if q.1.toList == name.toList then [] else [q]) ++ rsetF l (laid || leB name q.1)
theorem rsetF_laid : ∀ l : List (ByteArray × V), (∀ q ∈ l, q.1 ≠ name) → rsetF name x l true = l
  | [], _ => rfl
  | q :: l, h => by
    have h1 : (q.1.toList == name.toList) = false := by simpa using fun e => h q (by simp) (toList_eq e)
    rw [rsetF, h1]
    simp [rsetF_laid l (fun p hp => h p (by simp [hp]))]
theorem rset_found : ∀ (f : List (ByteArray × V)) (i : Nat) (q : ByteArray × V), (f.Pairwise fun p q => Lt p.1 q.1) → f[i]? = some q → q.1 = name → rsetF name x f false = f.take i ++ (name, x) :: f.drop (i + 1)
  | [], i, q, _, h, _ => by simp at h
  | p :: l, 0, q, hp, h, hq => by
    simp at h
    subst h
    have hl := (List.pairwise_cons.1 hp).1
    have h1 : leB name p.1 = true := leB_iff.2 (.inr hq.symm)
    rw [rsetF, h1]
    simp [hq]
    exact rsetF_laid name x l (fun r hr => by have := (hl r hr).ne; rw [hq] at this; exact fun e => this e.symm)
  | p :: l, i + 1, q, hp, h, hq => by
    have hl := List.pairwise_cons.1 hp
    have hlt : Lt p.1 name := by rw [← hq]; exact hl.1 q (List.mem_of_getElem? (by simpa using h))
    have h1 := leB_not hlt
    have h2 : (p.1.toList == name.toList) = false := by simpa using fun e => hlt.ne (toList_eq e)
    rw [rsetF, h1, h2]
    simp [rset_found l i q hl.2 (by simpa using h) hq]
theorem rset_new : ∀ (f : List (ByteArray × V)) (t : Nat), (f.Pairwise fun p q => Lt p.1 q.1) → (∀ q ∈ f, q.1 ≠ name) → t ≤ f.length → (∀ (i : Nat) (q : ByteArray × V), i < t → f[i]? = some q → ¬ Lt name q.1) → (∀ q, f[t]? = some q → Lt name q.1) → rsetF name x f false = f.take t ++ (name, x) :: f.drop t
  | [], t, _, _, ht, _, _ => by simp at ht; subst ht; simp [rsetF]
  | p :: l, 0, hp, hn, _, _, h2 => by
    have h1 : leB name p.1 = true := leB_iff.2 (.inl (h2 p rfl))
    have h3 : (p.1.toList == name.toList) = false := by simpa using fun e => hn p (by simp) (toList_eq e)
    rw [rsetF, h1, h3]
    simp [rsetF_laid name x l (fun r hr => hn r (by simp [hr]))]
  | p :: l, t + 1, hp, hn, ht, h1, h2 => by
    have hl := List.pairwise_cons.1 hp
    have hnp := hn p (by simp)
    have hlt : Lt p.1 name := by
      rcases lt_tri p.1 name with h | h | h
      · exact h
      · exact absurd h hnp
      · exact absurd h (h1 0 p (by omega) rfl)
    have h3 := leB_not hlt
    have h4 : (p.1.toList == name.toList) = false := by simpa using fun e => hnp (toList_eq e)
    rw [rsetF, h3, h4]
    simp [rset_new l t hl.2 (fun r hr => hn r (by simp [hr])) (by simpa using ht) (fun i q hi hq => h1 (i + 1) q (by omega) (by simpa using hq)) (fun q hq => h2 q (by simpa using hq))]
end
/-- The first field of which something is true; below 0: there is none. -/
def FirstAt (p : ByteArray → Bool) (f : List (ByteArray × V)) (r : Int) : Prop :=
  (r = -1 ∧ ∀ q ∈ f, p q.1 = false) ∨ ∃ (i : Nat) (q : ByteArray × V), r = i ∧ f[i]? = some q ∧ p q.1 = true ∧ ∀ (j : Nat) (s : ByteArray × V), j < i → f[j]? = some s → p s.1 = false
end Go.Proofs.YtefbfgcbbpmhlabGreatDoor
