/-
  Joined: Vg, Vi, Vj.
-/
import Derived.Test.YtobpidmlgldnmaaGreatDoorVh
import Derived.Test.YtobpidmlgldnmaaGreatDoorKb
import Derived.Test.YtobpidmlgldnmaaGreatDoorVe

/-
  A walk over all that is in a value, by a question that may count in a variable of its own: what each call keeps, and the functions between.
-/
namespace Go.Proofs.YtobpidmlgldnmaaGreatDoor
open Go.RowKit
set_option maxRecDepth 100000

section
variable (F : Value) (P : Nat) (w0 : World) (S : Nat → World → Prop) (G : V → Nat → Nat → Prop) (N : V → Nat)
/-- How a question went. -/
def Went (e : Ending) (w w' : World) (good : Prop) (s : Nat) : Prop := ∃ r : Bool, e = .returned (.bool r) ∧ (r = true ↔ good) ∧ (r = true → S s w') ∧ KeepBut P w w'
def EachOk (d : Nat) : Prop :=
  ∀ (v : V) (cs : List Value) (w : World) (deep s : Nat), RepN d w0 v cs → Below w0.heap.size w0 w → S s w → deep + v.dep ≤ 2000000 → s ≤ 300 →
    Calls Tryz.prog 31 #[.agg cs.toArray, .int .i64 deep, F] w fun e w' => Went P S e w w' (G v deep s) (s + N v)
/-- What came up to an element. -/
def sumN (l : List V) : Nat := (l.map N).sum
def Thr (l : List V) (deep s : Nat) : Prop := ∀ (i : Nat) (x : V), l[i]? = some x → G x deep (s + sumN N (l.take i))
end
theorem sumN_take (N : V → Nat) (l : List V) (j : Nat) (x : V) (h : l[j]? = some x) : sumN N (l.take (j + 1)) = sumN N (l.take j) + N x := by
  obtain ⟨hj, rfl⟩ := List.getElem?_eq_some_iff.1 h
  unfold sumN
  rw [List.take_succ_eq_append_getElem hj, List.map_append, List.sum_append]
  simp

section
variable {F : Value} {P : Nat} {w0 : World} {S : Nat → World → Prop} {G : V → Nat → Nat → Prop} {N : V → Nat}

theorem bad_one {d : Nat} (hE : EachOk F P w0 S G N d) (hS : ∀ s w w', S s w → Below w.heap.size w w' → S s w')
    (v : V) (cs : List Value) (w : World) (deep s B4 B5 : Nat) (hv : RepN d w0 v cs) (hb : Below w0.heap.size w0 w) (hs : S s w) (hd : deep + 1 + v.dep ≤ 2000000) (hs3 : s ≤ 300)
    (h4 : At w B4 3 #[.int .i64 deep]) (h5 : At w B5 88 #[F]) :
    Calls Tryz.prog 61 #[.agg cs.toArray, .pointer (some ⟨B4, 0, none⟩), .pointer (some ⟨B5, 0, none⟩)] w fun e w' => ∃ r : Bool, e = .returned (.bool r) ∧ (r = false ↔ G v (deep + 1) s) ∧ (r = false → S (s + N v) w') ∧ KeepBut P w w' := by
  obtain ⟨d', rfl⟩ := hv.inv
  have HV := hid hv
  have HS := hid hs
  have HE := hid hE
  have HSS := hid hS
  obtain ⟨al, af, cl, cf, rfl, _⟩ := hv
  have c4 := h4.cell 0
  have c5 := h5.cell 0
  have l4 := h4.lt
  have l5 := h5.lt
  clear hs hE hS
  simp at c4 c5
  go_enter Tryz.func61, Tryz.ntmps61
  go_wp2_with (go_at_call 31; go_loud (refine (HE.out v _ _ (deep + 1) s HV.out (hb.alloc hb.size _) (HSS.out _ _ _ HS.out (by go_grown)) hd hs3).mono ?_; rintro e w1 ⟨r, rfl, hr, hrs, hk⟩; have HRR := hid (And.intro hr hrs); clear hr hrs))
  go_ret
  exact ⟨!r, rfl, by have := HRR.out.1; cases r <;> simpa using this, fun h => HRR.out.2 (by cases r <;> simp_all), (KeepBut.of (by go_grown)).trans hk⟩

/-- The first that is bad, in a list. -/
theorem index_l {d : Nat} (hE : EachOk F P w0 S G N d) (hP : w0.heap.size ≤ P) (hS : ∀ s w w', S s w → Below w.heap.size w w' → S s w') (hG : ∀ x deep s, s ≤ 300 → G x deep s → s + N x ≤ 300)
    (l : List V) (al : Option Addr) (cl : Nat) (w : World) (deep s B4 B5 : Nat) (hl : l.length ≤ maxLen)
    (hL : ∀ (i : Nat) (x : V), l[i]? = some x → ∃ b off c, al = some ⟨b, off, none⟩ ∧ b < w0.heap.size ∧ CellsAt w0 b (off + i * 5) c ∧ RepN d w0 x c) (hdp : ∀ (i : Nat) (x : V), l[i]? = some x → deep + 1 + x.dep ≤ 2000000)
    (hb : Below w0.heap.size w0 w) (hs : S s w) (hs3 : s ≤ 300) (n4 : B4 ≠ P) (n5 : B5 ≠ P)
    (h4 : At w B4 3 #[.int .i64 deep]) (h5 : At w B5 88 #[F]) :
    Calls Tryz.prog 81 #[.slice al l.length cl, .func (.func 61) #[] #[.pointer (some ⟨B4, 0, none⟩), .pointer (some ⟨B5, 0, none⟩)]] w fun e w' => ∃ r : Int, e = .returned (.int .i64 r) ∧ (r < 0 ↔ Thr G N l (deep + 1) s) ∧ (r < 0 → S (s + sumN N l) w' ∧ s + sumN N l ≤ 300) ∧ KeepBut P w w' := by
  unfold maxLen at hl
  have HL := hid hL
  have HD := hid hdp
  have HS := hid hs
  have HB := hid hb
  have HG := hid hG
  have HS3 := hid hs3
  clear hL hdp hs hb hG hs3
  go_enter Tryz.func81, Tryz.ntmps81
  go_wp2_with fail
  go_loopw [8] (fun i wr => ∃ j : Nat, i = .int .i64 j ∧ j ≤ l.length ∧ (∀ (i : Nat) (x : V), i < j → l[i]? = some x → G x (deep + 1) (s + sumN N (l.take i))) ∧ (S (s + sumN N (l.take j)) wr ∧ s + sumN N (l.take j) ≤ 300) ∧ KeepBut P w wr) (fun i _ => l.length - (intOf i).toNat)
  case atStart => exact ⟨0, rfl, Nat.zero_le _, fun i x hi => by omega, by simpa [sumN] using ⟨HS.out, HS3.out⟩, KeepBut.refl _ _⟩
  case round =>
    obtain ⟨j, rfl, hj, hg, hsj, hK⟩ := hrel
    have HGJ := hid hg
    have HSJ := hid hsj
    clear hg hsj
    by_cases hjl : j < l.length
    · have hjl' : (j : Int) < l.length := by omega
      have hbr := hK.below HB.out hP
      obtain ⟨b, off, c, rfl, hbl, hc, hr⟩ := HL.out j l[j] (List.getElem?_eq_getElem hjl)
      have hr' := hr.later hbr
      obtain ⟨k1, n1, s1, a1, l1, c1, a2, l2, c2, rfl, g0, g1, g2, g3, g4⟩ := rep_cells hr' (hc.later hbl hbr)
      have HR := hid hr
      clear hr hr' hc
      have h4' := hK.at h4 n4
      have h5' := hK.at h5 n5
      go_wp2_with (go_at_call 61; refine (bad_one hE hS l[j] _ _ deep (s + sumN N (l.take j)) B4 B5 HR.out hbr HSJ.out.1 (HD.out j _ (List.getElem?_eq_getElem hjl)) HSJ.out.2 h4' h5').mono ?_; rintro e w1 ⟨r, rfl, hr, hrs, hk⟩; have HRR := hid (And.intro hr hrs); clear hr hrs; cases r)
      · go_roundw
        case rel =>
          have T := sumN_take N l j l[j] (List.getElem?_eq_getElem hjl)
          have q := HRR.out
          refine ⟨j + 1, by go_num, by omega, fun i x hi hx => ?_, ?_, hK.trans hk⟩
          · by_cases hij : i = j
            · rw [hij] at hx ⊢
              rw [List.getElem?_eq_getElem hjl] at hx
              cases hx
              exact q.1.1 (by first | rfl | trivial)
            · exact HGJ.out i x (by omega) hx
          · rw [T, ← Nat.add_assoc]
            exact ⟨q.2 (by first | rfl | trivial), HG.out _ _ _ HSJ.out.2 (q.1.1 (by first | rfl | trivial))⟩
        case measure => simp [intOf]; omega
      · go_ret
        exact ⟨j, rfl, iff_of_false (by omega) (fun h => by have := HRR.out.1.2 (h j _ (List.getElem?_eq_getElem hjl)); cases this), fun h => by omega, hK.trans hk⟩
    · have hjl' : ¬ (j : Int) < l.length := by omega
      have hje : j = l.length := by omega
      go_wp2_with fail
      go_ret
      refine ⟨-1, rfl, iff_of_true (by omega) (fun i x hx => HGJ.out i x (by have := (List.getElem?_eq_some_iff.1 hx).1; omega) hx), fun _ => ?_, hK⟩
      have q := HSJ.out
      rw [hje, List.take_length] at q
      exact q

theorem contains_l {d : Nat} (hE : EachOk F P w0 S G N d) (hP : w0.heap.size ≤ P) (hS : ∀ s w w', S s w → Below w.heap.size w w' → S s w') (hG : ∀ x deep s, s ≤ 300 → G x deep s → s + N x ≤ 300)
    (l : List V) (al : Option Addr) (cl : Nat) (w : World) (deep s B4 B5 : Nat) (hl : l.length ≤ maxLen)
    (hL : ∀ (i : Nat) (x : V), l[i]? = some x → ∃ b off c, al = some ⟨b, off, none⟩ ∧ b < w0.heap.size ∧ CellsAt w0 b (off + i * 5) c ∧ RepN d w0 x c) (hdp : ∀ (i : Nat) (x : V), l[i]? = some x → deep + 1 + x.dep ≤ 2000000)
    (hb : Below w0.heap.size w0 w) (hs : S s w) (hs3 : s ≤ 300) (n4 : B4 ≠ P) (n5 : B5 ≠ P)
    (h4 : At w B4 3 #[.int .i64 deep]) (h5 : At w B5 88 #[F]) :
    Calls Tryz.prog 62 #[.slice al l.length cl, .func (.func 61) #[] #[.pointer (some ⟨B4, 0, none⟩), .pointer (some ⟨B5, 0, none⟩)]] w fun e w' => ∃ r : Bool, e = .returned (.bool r) ∧ (r = false ↔ Thr G N l (deep + 1) s) ∧ (r = false → S (s + sumN N l) w' ∧ s + sumN N l ≤ 300) ∧ KeepBut P w w' := by
  have H := hid (index_l hE hP hS hG l al cl w deep s B4 B5 hl hL hdp hb hs hs3 n4 n5 h4 h5)
  clear hE hL hdp hb hs hs3 h4 h5 hS hG
  go_enter Tryz.func62, Tryz.ntmps62
  go_wp2_with (go_at_call 81; refine H.out.mono ?_; rintro e w1 ⟨r, rfl, hr, hrs, hk⟩; have HRR := hid (And.intro hr hrs); clear hr hrs)
  go_ret
  have q := HRR.out
  exact ⟨_, rfl, by rw [← q.1]; simp, fun h => q.2 (by simpa using h), hk⟩

theorem bad_field {d : Nat} (hE : EachOk F P w0 S G N d) (hS : ∀ s w w', S s w → Below w.heap.size w w' → S s w')
    (nm : ByteArray) (v : V) (cs : List Value) (w : World) (deep s B4 B5 B7 : Nat) (hv : RepN d w0 v cs) (hb : Below w0.heap.size w0 w) (hs : S s w) (hd : deep + 1 + v.dep ≤ 2000000) (hs3 : s ≤ 300)
    (h4 : At w B4 3 #[.int .i64 deep]) (h5 : At w B5 88 #[F]) (h7 : At w B7 90 #[.func (.func 61) #[] #[.pointer (some ⟨B4, 0, none⟩), .pointer (some ⟨B5, 0, none⟩)]]) :
    Calls Tryz.prog 64 #[.agg (.string nm :: cs).toArray, .pointer (some ⟨B7, 0, none⟩)] w fun e w' => ∃ r : Bool, e = .returned (.bool r) ∧ (r = false ↔ G v (deep + 1) s) ∧ (r = false → S (s + N v) w') ∧ KeepBut P w w' := by
  obtain ⟨d', rfl⟩ := hv.inv
  have H := hid (fun w1 hb1 hs1 h41 h51 => bad_one hE hS v cs w1 deep s B4 B5 hv hb1 hs1 hd hs3 h41 h51)
  have HS := hid hs
  have HSS := hid hS
  obtain ⟨al, af, cl, cf, rfl, _⟩ := hv
  have c7 := h7.cell 0
  have l7 := h7.lt
  clear hs hE hS
  simp at c7
  go_enter Tryz.func64, Tryz.ntmps64
  go_wp2_with (go_at_call 61; refine (H.out _ (hb.alloc hb.size _) (HSS.out _ _ _ HS.out (by go_grown)) (h4.alloc _) (h5.alloc _)).mono ?_; rintro e w1 ⟨r, rfl, hr, hrs, hk⟩; have HRR := hid (And.intro hr hrs); clear hr hrs)
  go_ret
  exact ⟨r, rfl, HRR.out.1, HRR.out.2, (KeepBut.of (by go_grown)).trans hk⟩
/-- The first that is bad, in a list. -/
theorem index_f {d : Nat} (hE : EachOk F P w0 S G N d) (hP : w0.heap.size ≤ P) (hS : ∀ s w w', S s w → Below w.heap.size w w' → S s w') (hG : ∀ x deep s, s ≤ 300 → G x deep s → s + N x ≤ 300)
    (l : List (ByteArray × V)) (al : Option Addr) (cl : Nat) (w : World) (deep s B4 B5 B7 : Nat) (hl : l.length ≤ maxLen)
    (hL : ∀ (i : Nat) (q : ByteArray × V), l[i]? = some q → ∃ b off c, al = some ⟨b, off, none⟩ ∧ b < w0.heap.size ∧ q.1.size ≤ maxLen ∧ w0.cell? ⟨b, off + i * 6, none⟩ = some (.string q.1) ∧ CellsAt w0 b (off + i * 6 + 1) c ∧ RepN d w0 q.2 c) (hdp : ∀ (i : Nat) (q : ByteArray × V), l[i]? = some q → deep + 1 + q.2.dep ≤ 2000000)
    (hb : Below w0.heap.size w0 w) (hs : S s w) (hs3 : s ≤ 300) (n4 : B4 ≠ P) (n5 : B5 ≠ P) (n7 : B7 ≠ P)
    (h4 : At w B4 3 #[.int .i64 deep]) (h5 : At w B5 88 #[F]) (h7 : At w B7 90 #[.func (.func 61) #[] #[.pointer (some ⟨B4, 0, none⟩), .pointer (some ⟨B5, 0, none⟩)]]) :
    Calls Tryz.prog 82 #[.slice al l.length cl, .func (.func 64) #[] #[.pointer (some ⟨B7, 0, none⟩)]] w fun e w' => ∃ r : Int, e = .returned (.int .i64 r) ∧ (r < 0 ↔ Thr G N (l.map (·.2)) (deep + 1) s) ∧ (r < 0 → S (s + sumN N (l.map (·.2))) w' ∧ s + sumN N (l.map (·.2)) ≤ 300) ∧ KeepBut P w w' := by
  unfold maxLen at hl
  have HL := hid hL
  have HD := hid hdp
  have HS := hid hs
  have HB := hid hb
  have HG := hid hG
  have HS3 := hid hs3
  clear hL hdp hs hb hG hs3
  go_enter Tryz.func82, Tryz.ntmps82
  go_wp2_with fail
  go_loopw [8] (fun i wr => ∃ j : Nat, i = .int .i64 j ∧ j ≤ l.length ∧ (∀ (i : Nat) (q : ByteArray × V), i < j → l[i]? = some q → G q.2 (deep + 1) (s + sumN N ((l.take i).map (·.2)))) ∧ (S (s + sumN N ((l.take j).map (·.2))) wr ∧ s + sumN N ((l.take j).map (·.2)) ≤ 300) ∧ KeepBut P w wr) (fun i _ => l.length - (intOf i).toNat)
  case atStart => exact ⟨0, rfl, Nat.zero_le _, fun i x hi => by omega, by simpa [sumN] using ⟨HS.out, HS3.out⟩, KeepBut.refl _ _⟩
  case round =>
    obtain ⟨j, rfl, hj, hg, hsj, hK⟩ := hrel
    have HGJ := hid hg
    have HSJ := hid hsj
    clear hg hsj
    by_cases hjl : j < l.length
    · have hjl' : (j : Int) < l.length := by omega
      have hbr := hK.below HB.out hP
      obtain ⟨b, off, c, rfl, hbl, _, hcn, hc, hr⟩ := HL.out j l[j] (List.getElem?_eq_getElem hjl)
      have hr' := hr.later hbr
      obtain ⟨k1, n1, s1, a1, l1, c1, a2, l2, c2, rfl, g0, g1, g2, g3, g4⟩ := rep_cells hr' (hc.later hbl hbr)
      have gn := (hbr.cell (p := ⟨b, off + j * 6, none⟩) hbl).trans hcn
      have HR := hid hr
      clear hr hr' hc hcn
      have h4' := hK.at h4 n4
      have h5' := hK.at h5 n5
      have h7' := hK.at h7 n7
      go_wp2_with (go_at_call 64; refine (bad_field hE hS l[j].1 l[j].2 _ _ deep (s + sumN N ((l.take j).map (·.2))) B4 B5 B7 HR.out hbr HSJ.out.1 (HD.out j _ (List.getElem?_eq_getElem hjl)) HSJ.out.2 h4' h5' h7').mono ?_; rintro e w1 ⟨r, rfl, hr, hrs, hk⟩; have HRR := hid (And.intro hr hrs); clear hr hrs; cases r)
      · go_roundw
        case rel =>
          have T : sumN N ((l.take (j + 1)).map (·.2)) = sumN N ((l.take j).map (·.2)) + N l[j].2 := by
            rw [List.map_take, List.map_take]
            exact sumN_take N (l.map (·.2)) j l[j].2 (by simp [hjl])
          have q := HRR.out
          refine ⟨j + 1, by go_num, by omega, fun i x hi hx => ?_, ?_, hK.trans hk⟩
          · by_cases hij : i = j
            · rw [hij] at hx ⊢
              rw [List.getElem?_eq_getElem hjl] at hx
              cases hx
              exact q.1.1 (by first | rfl | trivial)
            · exact HGJ.out i x (by omega) hx
          · rw [T, ← Nat.add_assoc]
            exact ⟨q.2 (by first | rfl | trivial), HG.out _ _ _ HSJ.out.2 (q.1.1 (by first | rfl | trivial))⟩
        case measure => simp [intOf]; omega
      · go_ret
        exact ⟨j, rfl, iff_of_false (by omega) (fun h => by have := HRR.out.1.2 (by rw [List.map_take]; exact h j _ (by simp [hjl])); cases this), fun h => by omega, hK.trans hk⟩
    · have hjl' : ¬ (j : Int) < l.length := by omega
      have hje : j = l.length := by omega
      go_wp2_with fail
      go_ret
      refine ⟨-1, rfl, iff_of_true (by omega) (fun i x hx => by
        rw [List.getElem?_map] at hx
        obtain ⟨y, hy, rfl⟩ := Option.map_eq_some_iff.1 hx
        rw [← List.map_take]
        exact HGJ.out i y (by have := (List.getElem?_eq_some_iff.1 hy).1; omega) hy), fun _ => ?_, hK⟩
      have q := HSJ.out
      rw [hje, List.take_length] at q
      exact q

theorem contains_f {d : Nat} (hE : EachOk F P w0 S G N d) (hP : w0.heap.size ≤ P) (hS : ∀ s w w', S s w → Below w.heap.size w w' → S s w') (hG : ∀ x deep s, s ≤ 300 → G x deep s → s + N x ≤ 300)
    (l : List (ByteArray × V)) (al : Option Addr) (cl : Nat) (w : World) (deep s B4 B5 B7 : Nat) (hl : l.length ≤ maxLen)
    (hL : ∀ (i : Nat) (q : ByteArray × V), l[i]? = some q → ∃ b off c, al = some ⟨b, off, none⟩ ∧ b < w0.heap.size ∧ q.1.size ≤ maxLen ∧ w0.cell? ⟨b, off + i * 6, none⟩ = some (.string q.1) ∧ CellsAt w0 b (off + i * 6 + 1) c ∧ RepN d w0 q.2 c) (hdp : ∀ (i : Nat) (q : ByteArray × V), l[i]? = some q → deep + 1 + q.2.dep ≤ 2000000)
    (hb : Below w0.heap.size w0 w) (hs : S s w) (hs3 : s ≤ 300) (n4 : B4 ≠ P) (n5 : B5 ≠ P) (n7 : B7 ≠ P)
    (h4 : At w B4 3 #[.int .i64 deep]) (h5 : At w B5 88 #[F]) (h7 : At w B7 90 #[.func (.func 61) #[] #[.pointer (some ⟨B4, 0, none⟩), .pointer (some ⟨B5, 0, none⟩)]]) :
    Calls Tryz.prog 63 #[.slice al l.length cl, .func (.func 64) #[] #[.pointer (some ⟨B7, 0, none⟩)]] w fun e w' => ∃ r : Bool, e = .returned (.bool r) ∧ (r = false ↔ Thr G N (l.map (·.2)) (deep + 1) s) ∧ (r = false → S (s + sumN N (l.map (·.2))) w' ∧ s + sumN N (l.map (·.2)) ≤ 300) ∧ KeepBut P w w' := by
  have H := hid (index_f hE hP hS hG l al cl w deep s B4 B5 B7 hl hL hdp hb hs hs3 n4 n5 n7 h4 h5 h7)
  clear hE hL hdp hb hs hs3 h4 h5 hS hG
  go_enter Tryz.func63, Tryz.ntmps63
  go_wp2_with (go_at_call 82; refine H.out.mono ?_; rintro e w1 ⟨r, rfl, hr, hrs, hk⟩; have HRR := hid (And.intro hr hrs); clear hr hrs)
  go_ret
  have q := HRR.out
  exact ⟨_, rfl, by rw [← q.1]; simp, fun h => q.2 (by simpa using h), hk⟩
end
end Go.Proofs.YtobpidmlgldnmaaGreatDoor

/-
  The program's own answer whether names may be, and rise.
-/
namespace Go.Proofs.YtobpidmlgldnmaaGreatDoor
open Go.RowKit
set_option maxRecDepth 100000

theorem At.setOne {w : World} {b : Nat} {t : TypeId} {u : Value} (h : At w b t #[u]) (v : Value) : At (w.setCell ⟨b, 0, none⟩ v) b t #[v] := by
  unfold At at *
  simp [World.setCell, Array.getElem?_modify, h]
theorem KeepBut.setCell {P : Nat} {w w' : World} (h : KeepBut P w w') (o : Nat) (v : Value) : KeepBut P w (w'.setCell ⟨P, o, none⟩ v) :=
  h.trans ⟨rfl, rfl, rfl, by simp [World.setCell], fun k _ hp => Below.heap_setCell _ _ _ _ hp⟩
/-- A name that may be, behind another one. -/
def NameAfter (prev nm : ByteArray) : Prop := nmOk nm = true ∧ risesB prev nm = true
theorem bytesLess_nil (l : List UInt8) : Op.bytesLess l [] = false := by cases l <;> rfl
theorem after_empty (nm : ByteArray) : NameAfter ⟨#[]⟩ nm ↔ nmOk nm = true := by
  refine ⟨fun h => h.1, fun h => ⟨h, ?_⟩⟩
  unfold risesB
  rw [ByteArray.toList_eq (⟨#[]⟩ : ByteArray)]
  show (!(Op.bytesLess nm.toList [] || nm.toList == [])) = true
  rw [bytesLess_nil]
  have : nm.toList ≠ [] := fun e => by
    have := (toList_nil nm).1 e
    rw [nmOk_len (by omega)] at h
    cases h
  simpa using this

theorem name_one (prev nm : ByteArray) (c0 c1 c2 c3 c4 : Value) (w : World) (P : Nat) (hP : At w P 9 #[.string prev]) (hn : nm.size ≤ maxLen) :
    Calls Tryz.prog 84 #[.agg #[.string nm, c0, c1, c2, c3, c4], .pointer (some ⟨P, 0, none⟩)] w fun e w' => ∃ r : Bool, e = .returned (.bool r) ∧ (r = false ↔ NameAfter prev nm) ∧ At w' P 9 #[.string nm] ∧ KeepBut P w w' := by
  have c := hP.cell 0
  have l := hP.lt
  have fr := hP.free 0
  simp at c
  go_enter Tryz.func84, Tryz.ntmps84
  cases hok : nmOk nm
  · have HOK := hid hok
    clear hok
    go_wp2_with (go_at_call 66; refine (vNameMay nm _ hn).mono ?_; rw [HOK.out]; rintro e w1 ⟨rfl, rfl⟩)
    go_ret
    exact ⟨true, rfl, iff_of_false (by simp) (fun h => absurd (HOK.out.symm.trans h.1) Bool.false_ne_true), (hP.setOne _).alloc _, ((KeepBut.refl _ _).setCell _ _).trans (KeepBut.of ((Below.refl _ _).alloc (Nat.le_refl _) _))⟩
  · have HOK := hid hok
    clear hok
    cases hle : (Op.bytesLess nm.toList prev.toList || nm.toList == prev.toList)
    all_goals
      have HLE := hid (show risesB prev nm = _ from congrArg Bool.not hle)
      go_wp2_with (go_at_call 66; refine (vNameMay nm _ hn).mono ?_; rw [HOK.out]; rintro e w1 ⟨rfl, rfl⟩)
      go_ret
      refine ⟨_, rfl, ?_, (hP.setOne _).alloc _, ((KeepBut.refl _ _).setCell _ _).trans (KeepBut.of ((Below.refl _ _).alloc (Nat.le_refl _) _))⟩
      first
        | exact iff_of_true rfl ⟨HOK.out, HLE.out⟩
        | exact iff_of_false (by simp) (fun h => absurd (HLE.out.symm.trans h.2) Bool.false_ne_true)

theorem index_nm {d : Nat} (l : List (ByteArray × V)) (al : Option Addr) (cl : Nat) (w0 w : World) (P : Nat) (hl : l.length ≤ maxLen)
    (hL : ∀ (i : Nat) (q : ByteArray × V), l[i]? = some q → ∃ b off c, al = some ⟨b, off, none⟩ ∧ b < w0.heap.size ∧ q.1.size ≤ maxLen ∧ w0.cell? ⟨b, off + i * 6, none⟩ = some (.string q.1) ∧ CellsAt w0 b (off + i * 6 + 1) c ∧ RepN d w0 q.2 c)
    (hb : Below w0.heap.size w0 w) (hP0 : w0.heap.size ≤ P) (hP : At w P 9 #[.string ⟨#[]⟩]) :
    Calls Tryz.prog 82 #[.slice al l.length cl, .func (.func 84) #[] #[.pointer (some ⟨P, 0, none⟩)]] w fun e w' => ∃ r : Int, e = .returned (.int .i64 r) ∧ (r < 0 ↔ Names l) ∧ KeepBut P w w' := by
  unfold maxLen at hl
  have HL := hid hL
  have HB := hid hb
  clear hL hb
  go_enter Tryz.func82, Tryz.ntmps82
  go_wp2_with fail
  go_loopw [8] (fun i wr => ∃ (j : Nat) (prev : ByteArray), i = .int .i64 j ∧ j ≤ l.length ∧ (∀ (i : Nat) (q : ByteArray × V), i < j → l[i]? = some q → nmOk q.1 = true ∧ ∀ (j : Nat) (p : ByteArray × V), i = j + 1 → l[j]? = some p → risesB p.1 q.1 = true) ∧ ((j = 0 ∧ prev = ⟨#[]⟩) ∨ ∃ i q, j = i + 1 ∧ l[i]? = some q ∧ prev = q.1) ∧ At wr P 9 #[.string prev] ∧ KeepBut P w wr) (fun i _ => l.length - (intOf i).toNat)
  case atStart => exact ⟨0, _, rfl, Nat.zero_le _, fun i x hi => by omega, .inl ⟨rfl, rfl⟩, hP, KeepBut.refl _ _⟩
  case round =>
    obtain ⟨j, prev, rfl, hj, hg, hpv, hA, hK⟩ := hrel
    have HGJ := hid hg
    have HPV := hid hpv
    clear hg hpv
    by_cases hjl : j < l.length
    · have hjl' : (j : Int) < l.length := by omega
      have hbr := hK.below HB.out hP0
      obtain ⟨b, off, c, rfl, hbl, hnl, hcn, hc, hr⟩ := HL.out j l[j] (List.getElem?_eq_getElem hjl)
      have hr' := hr.later hbr
      obtain ⟨k1, n1, s1, a1, l1, c1, a2, l2, c2, rfl, g0, g1, g2, g3, g4⟩ := rep_cells hr' (hc.later hbl hbr)
      have gn := (hbr.cell (p := ⟨b, off + j * 6, none⟩) hbl).trans hcn
      clear hr hr' hc hcn
      go_wp2_with (go_at_call 84; refine (name_one prev l[j].1 _ _ _ _ _ _ P hA hnl).mono ?_; rintro e w1 ⟨r, rfl, hr, hA1, hk⟩; have HRR := hid hr; clear hr; cases r)
      · go_roundw
        case rel =>
          have q := HRR.out.1 (by first | rfl | trivial)
          refine ⟨j + 1, l[j].1, by go_num, by omega, fun i x hi hx => ?_, .inr ⟨j, _, rfl, List.getElem?_eq_getElem hjl, rfl⟩, hA1, hK.trans hk⟩
          by_cases hij : i = j
          · rw [hij, List.getElem?_eq_getElem hjl] at hx
            cases hx
            refine ⟨q.1, fun m p e hp => ?_⟩
            rcases HPV.out with ⟨e0, _⟩ | ⟨i', q', e1, e2, e3⟩
            · omega
            · have : m = i' := by omega
              rw [this, e2] at hp
              cases hp
              rw [← e3]
              exact q.2
          · exact HGJ.out i x (by omega) hx
        case measure => simp [intOf]; omega
      · go_ret
        refine ⟨j, rfl, iff_of_false (by omega) (fun h => ?_), hK.trans hk⟩
        have hN := h j _ (List.getElem?_eq_getElem hjl)
        have bad : ¬ NameAfter prev l[j].1 := fun q => by have := HRR.out.2 q; cases this
        rcases HPV.out with ⟨_, e0⟩ | ⟨i', q', e1, e2, e3⟩
        · rw [e0] at bad
          exact bad ((after_empty _).2 hN.1)
        · rw [e3] at bad
          exact bad ⟨hN.1, hN.2 i' q' e1 e2⟩
    · have hjl' : ¬ (j : Int) < l.length := by omega
      go_wp2_with fail
      go_ret
      exact ⟨-1, rfl, iff_of_true (by omega) (fun i x hx => HGJ.out i x (by have := (List.getElem?_eq_some_iff.1 hx).1; omega) hx), hK⟩

theorem contains_nm {d : Nat} (l : List (ByteArray × V)) (al : Option Addr) (cl : Nat) (w0 w : World) (P : Nat) (hl : l.length ≤ maxLen)
    (hL : ∀ (i : Nat) (q : ByteArray × V), l[i]? = some q → ∃ b off c, al = some ⟨b, off, none⟩ ∧ b < w0.heap.size ∧ q.1.size ≤ maxLen ∧ w0.cell? ⟨b, off + i * 6, none⟩ = some (.string q.1) ∧ CellsAt w0 b (off + i * 6 + 1) c ∧ RepN d w0 q.2 c)
    (hb : Below w0.heap.size w0 w) (hP0 : w0.heap.size ≤ P) (hP : At w P 9 #[.string ⟨#[]⟩]) :
    Calls Tryz.prog 63 #[.slice al l.length cl, .func (.func 84) #[] #[.pointer (some ⟨P, 0, none⟩)]] w fun e w' => ∃ r : Bool, e = .returned (.bool r) ∧ (r = false ↔ Names l) ∧ KeepBut P w w' := by
  have H := hid (index_nm l al cl w0 w P hl hL hb hP0 hP)
  clear hL hb hP
  go_enter Tryz.func63, Tryz.ntmps63
  go_wp2_with (go_at_call 82; refine H.out.mono ?_; rintro e w1 ⟨r, rfl, hr, hk⟩; have HRR := hid hr; clear hr)
  go_ret
  have q := HRR.out
  exact ⟨_, rfl, by rw [← q]; simp, hk⟩

theorem namesMay_says {d : Nat} (l : List (ByteArray × V)) (al : Option Addr) (cl : Nat) (w : World) (hl : l.length ≤ maxLen)
    (hL : ∀ (i : Nat) (q : ByteArray × V), l[i]? = some q → ∃ b off c, al = some ⟨b, off, none⟩ ∧ b < w.heap.size ∧ q.1.size ≤ maxLen ∧ w.cell? ⟨b, off + i * 6, none⟩ = some (.string q.1) ∧ CellsAt w b (off + i * 6 + 1) c ∧ RepN d w q.2 c) :
    Calls Tryz.prog 67 #[.slice al l.length cl] w fun e w' => ∃ r : Bool, e = .returned (.bool r) ∧ (r = true ↔ Names l) ∧ Below w.heap.size w w' := by
  have H := hid (fun w1 hb hP => contains_nm l al cl w w1 w.heap.size hl hL hb (Nat.le_refl _) hP)
  clear hL
  go_enter Tryz.func67, Tryz.ntmps67
  go_wp2_with (go_at_call 63; go_loud (refine (H.out _ (by go_grown) (by first | exact At.new _ _ _ rfl | exact (At.new _ _ _ rfl).setOne _)).mono ?_; rintro e w1 ⟨r, rfl, hr, hk⟩; have HRR := hid hr; clear hr))
  go_ret
  exact ⟨!r, rfl, by have := HRR.out; cases r <;> simpa using this, hk.below (by go_grown) (Nat.le_refl _)⟩
end Go.Proofs.YtobpidmlgldnmaaGreatDoor

/-
  The program's own answer whether a value may be, whatever those in it are.
-/
namespace Go.Proofs.YtobpidmlgldnmaaGreatDoor
open Go.RowKit
set_option maxRecDepth 100000

set_option maxHeartbeats 4000000 in
theorem may_says {d : Nat} {v : V} {cs : List Value} {w : World} (hv : RepN d w v cs) :
    Calls Tryz.prog 33 #[.agg cs.toArray] w fun e w' => AnsB e (Own v) ∧ Below w.heap.size w w' := by
  obtain ⟨e, rfl⟩ := hv.inv
  have HV := hid hv
  obtain ⟨al, af, cl, cf, rfl, ⟨hs, hl, hf⟩, hL, hF⟩ := hv
  have HN := hid (fun (w1 : World) (hb : Below w.heap.size w w1) => namesMay_says v.f af cf w1 hf (fun i q hq => by
    obtain ⟨b, off, c, e, hb1, hs1, hn, hc, hr⟩ := hF i q hq
    exact ⟨b, off, c, e, Nat.lt_of_lt_of_le hb1 hb.size, hs1, (hb.cell (p := ⟨b, off + i * 6, none⟩) hb1).trans hn, hc.later hb1 hb, hr.later hb⟩))
  clear hL hF hl hf HV
  generalize hll : v.l.length = ll at *
  generalize hlf : v.f.length = lf at *
  have HLL := hid hll
  have HLF := hid hlf
  clear hll hlf
  go_enter Tryz.func33, Tryz.ntmps33
  go_wp2_with fail
  go_region
  by_cases hse : v.s.toList = []
  all_goals
    first
      | have hsz : v.s.size = 0 := (toList_nil _).1 hse
      | have hsz : ¬ v.s.size = 0 := fun h => hse ((toList_nil _).2 h)
    by_cases hk : v.k = 0
    · go_wp2_with fail
      all_goals go_ret
      all_goals refine ⟨AnsB.of ?_, by go_grown⟩
      all_goals rw [own0 hk, HLL.out, HLF.out]
      all_goals first | (simp only [Bool.false_eq_true, false_iff]; omega) | (simp only [beq_iff_eq]; omega) | (simp only [true_iff]; omega)
    by_cases hk1 : v.k = 1
    · go_wp2_with fail
      all_goals go_ret
      all_goals refine ⟨AnsB.of ?_, by go_grown⟩
      all_goals rw [own1 hk1, HLL.out, HLF.out]
      all_goals first | (simp only [Bool.false_eq_true, false_iff]; omega) | (simp only [beq_iff_eq]; omega) | (simp only [true_iff]; omega)
    by_cases hk2 : v.k = 2
    · cases hok : okF v.n
      all_goals
        first
          | have hfl := flt_ok hok
          | have hfl := flt_bad hok
        have HOK := hid hok
        clear hok
        go_wp2_with (go_at_call 65; refine (check_any v.n _).mono ?_; rw [hfl]; (first | rw [errN_0] | (rw [errN_1]; unfold errV)); rintro e w1 ⟨rfl, rfl⟩)
        all_goals go_ret
        all_goals refine ⟨AnsB.of ?_, by go_grown⟩
        all_goals rw [own2 hk2, HOK.out, HLL.out, HLF.out]
        all_goals simp only [Bool.false_eq_true, false_and, true_and]
        all_goals first | (simp only [beq_iff_eq]; omega) | omega | (simp only [false_iff]; omega) | (simp only [true_iff]; omega) | (simp only [iff_self]; done)
    by_cases hk3 : v.k = 3
    · go_wp2_with fail
      all_goals go_ret
      all_goals refine ⟨AnsB.of ?_, by go_grown⟩
      all_goals rw [own3 hk3, HLL.out, HLF.out]
      all_goals first | (simp only [Bool.false_eq_true, false_iff]; omega) | (simp only [beq_iff_eq]; omega) | (simp only [true_iff]; omega)
    by_cases hk4 : v.k = 4
    · cases hok : nmOk v.s
      all_goals
        have HOK := hid hok
        clear hok
        go_wp2_with (go_at_call 66; refine (vNameMay v.s _ hs).mono ?_; rw [HOK.out]; rintro e w1 ⟨rfl, rfl⟩)
        all_goals go_ret
        all_goals refine ⟨AnsB.of ?_, by go_grown⟩
        all_goals rw [own4 hk4, HOK.out, HLL.out, HLF.out]
        all_goals simp only [Bool.false_eq_true, false_and, true_and, and_false]
        all_goals first | (simp only [beq_iff_eq]; omega) | omega | (simp only [false_iff]; omega) | (simp only [true_iff]; omega) | (simp only [iff_self]; done)
    by_cases hk5 : v.k = 5
    · go_wp2_with fail
      all_goals go_ret
      all_goals refine ⟨AnsB.of ?_, by go_grown⟩
      all_goals rw [own5 hk5, HLF.out]
      all_goals first | (simp only [Bool.false_eq_true, false_iff]; omega) | (simp only [beq_iff_eq]; omega) | (simp only [true_iff]; omega)
    by_cases hk6 : v.k = 6
    · go_wp2_with (go_at_call 67; refine (HN.out _ (by go_grown)).mono ?_; rintro e w1 ⟨r, rfl, hr, hkb⟩; have HRR := hid hr; clear hr; have x1 := fun o => hkb.cell (p := ⟨w.heap.size + 1, o, none⟩) (by simp); have x2 := fun o => hkb.frozen (p := ⟨w.heap.size + 1, o, none⟩) (by simp); cases r)
      all_goals go_ret
      all_goals
        have hbw : Below w.heap.size w w1 := Below.trans (show Below w.heap.size w _ by go_grown) (hkb.mono (by show _ ≤ (World.alloc (World.alloc w _) _).heap.size; simp; omega))
        refine ⟨AnsB.of ?_, by first | exact hbw | exact hbw.setCell (by simp) _⟩
        rw [own6 hk6, HLL.out]
        have hq := HRR.out
        simp only [Bool.false_eq_true, false_iff, true_iff] at hq
        simp only [hq, and_true, and_false]
        first | (simp only [Bool.false_eq_true, false_iff]; omega) | (simp only [beq_iff_eq]; omega) | (simp only [true_iff]; omega) | (simp only [Bool.false_eq_true, iff_self]; done)
    by_cases hk7 : v.k = 7
    · go_wp2_with fail
      all_goals go_ret
      all_goals refine ⟨AnsB.of ?_, by go_grown⟩
      all_goals rw [own7 hk7, HLL.out, HLF.out]
      all_goals first | (simp only [Bool.false_eq_true, false_iff]; omega) | (simp only [beq_iff_eq]; omega) | (simp only [true_iff]; omega)
    go_wp2_with fail
    go_ret
    exact ⟨.no (own8 (by omega)), by go_grown⟩
end Go.Proofs.YtobpidmlgldnmaaGreatDoor
