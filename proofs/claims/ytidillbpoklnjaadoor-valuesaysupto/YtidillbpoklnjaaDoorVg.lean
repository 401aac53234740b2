/-
  A walk over all that is in a value, by a question that may count in a variable of its own: what each call keeps, and the functions between.
-/
import Derived.Test.YtidillbpoklnjaaDoorVh
namespace Go.Proofs.YtidillbpoklnjaaDoor
open Go.RowKit
set_option maxRecDepth 100000

/-- All that was there is as it was, but for one block. -/
structure KeepBut (P : Nat) (w w' : World) : Prop where
  os : w'.os = w.os
  tape : w'.tape = w.tape
  output : w'.output = w.output
  size : w.heap.size ≤ w'.heap.size
  block : ∀ k, k < w.heap.size → k ≠ P → w'.heap[k]? = w.heap[k]?
theorem KeepBut.refl (P : Nat) (w : World) : KeepBut P w w := ⟨rfl, rfl, rfl, Nat.le_refl _, fun _ _ _ => rfl⟩
theorem KeepBut.trans {P : Nat} {a b c : World} (h : KeepBut P a b) (k : KeepBut P b c) : KeepBut P a c :=
  ⟨k.os.trans h.os, k.tape.trans h.tape, k.output.trans h.output, Nat.le_trans h.size k.size, fun i hi hp => (k.block i (Nat.lt_of_lt_of_le hi h.size) hp).trans (h.block i hi hp)⟩
theorem KeepBut.of {P : Nat} {w w' : World} (h : Below w.heap.size w w') : KeepBut P w w' := ⟨h.os, h.tape, h.output, h.size, fun k hk _ => h.block k hk⟩
theorem KeepBut.below {P : Nat} {w0 w w' : World} (h : KeepBut P w w') (hb : Below w0.heap.size w0 w) (hP : w0.heap.size ≤ P) : Below w0.heap.size w0 w' :=
  ⟨h.os.trans hb.os, h.tape.trans hb.tape, h.output.trans hb.output, Nat.le_trans hb.size h.size, fun k hk => (h.block k (Nat.lt_of_lt_of_le hk hb.size) (by omega)).trans (hb.block k hk)⟩
theorem KeepBut.at {P : Nat} {w w' : World} {b : Nat} {t : TypeId} {cs : Array Value} (h : KeepBut P w w') (ha : At w b t cs) (hb : b ≠ P) : At w' b t cs := (h.block b ha.lt hb).trans ha
theorem KeepBut.cell {P : Nat} {w w' : World} (h : KeepBut P w w') {b : Nat} (hb : b < w.heap.size) (hp : b ≠ P) (o : Nat) : w'.cell? ⟨b, o, none⟩ = w.cell? ⟨b, o, none⟩ := by
  have B : Below b.succ w w' → _ := fun hB => hB.cell (p := ⟨b, o, none⟩) (Nat.lt_succ_self b)
  unfold World.cell?
  simp only [h.block b hb hp]

section
variable (F : Value) (P : Nat) (w0 : World) (S : Nat → World → Prop) (G : V → Nat → Nat → Prop) (N : V → Nat)
/-- How a question went. -/
def Went (e : Ending) (w w' : World) (good : Prop) (s : Nat) : Prop := ∃ r : Bool, e = .returned (.bool r) ∧ (r = true ↔ good) ∧ (r = true → S s w') ∧ KeepBut P w w'
def EachOk (d : Nat) : Prop :=
  ∀ (v : V) (cs : List Value) (w : World) (deep s : Nat), RepN d w0 v cs → Below w0.heap.size w0 w → S s w → deep + v.dep ≤ 2000000 → s ≤ 300 →
    Calls Tryd.prog 67 #[.agg cs.toArray, .int .i64 deep, F] w fun e w' => Went P S e w w' (G v deep s) (s + N v)
/-- What came up to an element. -/
def sumN (l : List V) : Nat := (l.map N).sum
def Thr (l : List V) (deep s : Nat) : Prop := ∀ (i : Nat) (x : V), l[i]? = some x → G x deep (s + sumN N (l.take i))
end
theorem sumN_take (N : V → Nat) (l : List V) (j : Nat) (x : V) (h : l[j]? = some x) : sumN N (l.take (j + 1)) = sumN N (l.take j) + N x := by
  obtain ⟨hj, rfl⟩ := List.getElem?_eq_some_iff.1 h
  unfold sumN
  rw [List.take_succ_eq_append_getElem hj, List.map_append, List.sum_append]
  simp

section
variable {F : Value} {P : Nat} {w0 : World} {S : Nat → World → Prop} {G : V → Nat → Nat → Prop} {N : V → Nat}

theorem bad_one {d : Nat} (hE : EachOk F P w0 S G N d) (hS : ∀ s w w', S s w → Below w.heap.size w w' → S s w')
    (v : V) (cs : List Value) (w : World) (deep s B4 B5 : Nat) (hv : RepN d w0 v cs) (hb : Below w0.heap.size w0 w) (hs : S s w) (hd : deep + 1 + v.dep ≤ 2000000) (hs3 : s ≤ 300)
    (h4 : At w B4 3 #[.int .i64 deep]) (h5 : At w B5 95 #[F]) :
    Calls Tryd.prog 91 #[.agg cs.toArray, .pointer (some ⟨B4, 0, none⟩), .pointer (some ⟨B5, 0, none⟩)] w fun e w' => ∃ r : Bool, e = .returned (.bool r) ∧ (r = false ↔ G v (deep + 1) s) ∧ (r = false → S (s + N v) w') ∧ KeepBut P w w' := by
  obtain ⟨d', rfl⟩ := hv.inv
  have HV := hid hv
  have HS := hid hs
  have HE := hid hE
  have HSS := hid hS
  obtain ⟨al, af, cl, cf, rfl, _⟩ := hv
  have c4 := h4.cell 0
  have c5 := h5.cell 0
  have l4 := h4.lt
  have l5 := h5.lt
  clear hs hE hS
  simp at c4 c5
  go_enter Tryd.func91, Tryd.ntmps91
  go_wp2_with (go_at_call 67; go_loud (refine (HE.out v _ _ (deep + 1) s HV.out (hb.alloc hb.size _) (HSS.out _ _ _ HS.out (by go_grown)) hd hs3).mono ?_; rintro e w1 ⟨r, rfl, hr, hrs, hk⟩; have HRR := hid (And.intro hr hrs); clear hr hrs))
  go_ret
  exact ⟨!r, rfl, by have := HRR.out.1; cases r <;> simpa using this, fun h => HRR.out.2 (by cases r <;> simp_all), (KeepBut.of (by go_grown)).trans hk⟩

/-- The first that is bad, in a list. -/
theorem index_l {d : Nat} (hE : EachOk F P w0 S G N d) (hP : w0.heap.size ≤ P) (hS : ∀ s w w', S s w → Below w.heap.size w w' → S s w') (hG : ∀ x deep s, s ≤ 300 → G x deep s → s + N x ≤ 300)
    (l : List V) (al : Option Addr) (cl : Nat) (w : World) (deep s B4 B5 : Nat) (hl : l.length ≤ maxLen)
    (hL : ∀ (i : Nat) (x : V), l[i]? = some x → ∃ b off c, al = some ⟨b, off, none⟩ ∧ b < w0.heap.size ∧ CellsAt w0 b (off + i * 5) c ∧ RepN d w0 x c) (hdp : ∀ (i : Nat) (x : V), l[i]? = some x → deep + 1 + x.dep ≤ 2000000)
    (hb : Below w0.heap.size w0 w) (hs : S s w) (hs3 : s ≤ 300) (n4 : B4 ≠ P) (n5 : B5 ≠ P)
    (h4 : At w B4 3 #[.int .i64 deep]) (h5 : At w B5 95 #[F]) :
    Calls Tryd.prog 107 #[.slice al l.length cl, .func (.func 91) #[] #[.pointer (some ⟨B4, 0, none⟩), .pointer (some ⟨B5, 0, none⟩)]] w fun e w' => ∃ r : Int, e = .returned (.int .i64 r) ∧ (r < 0 ↔ Thr G N l (deep + 1) s) ∧ (r < 0 → S (s + sumN N l) w' ∧ s + sumN N l ≤ 300) ∧ KeepBut P w w' := by
  unfold maxLen at hl
  have HL := hid hL
  have HD := hid hdp
  have HS := hid hs
  have HB := hid hb
  have HG := hid hG
  have HS3 := hid hs3
  clear hL hdp hs hb hG hs3
  go_enter Tryd.func107, Tryd.ntmps107
  go_wp2_with fail
  go_loopw [8] (fun i wr => ∃ j : Nat, i = .int .i64 j ∧ j ≤ l.length ∧ (∀ (i : Nat) (x : V), i < j → l[i]? = some x → G x (deep + 1) (s + sumN N (l.take i))) ∧ (S (s + sumN N (l.take j)) wr ∧ s + sumN N (l.take j) ≤ 300) ∧ KeepBut P w wr) (fun i _ => l.length - (intOf i).toNat)
  case atStart => exact ⟨0, rfl, Nat.zero_le _, fun i x hi => by omega, by simpa [sumN] using ⟨HS.out, HS3.out⟩, KeepBut.refl _ _⟩
  case round =>
    obtain ⟨j, rfl, hj, hg, hsj, hK⟩ := hrel
    have HGJ := hid hg
    have HSJ := hid hsj
    clear hg hsj
    by_cases hjl : j < l.length
    · have hjl' : (j : Int) < l.length := by omega
      have hbr := hK.below HB.out hP
      obtain ⟨b, off, c, rfl, hbl, hc, hr⟩ := HL.out j l[j] (List.getElem?_eq_getElem hjl)
      have hr' := hr.later hbr
      obtain ⟨k1, n1, s1, a1, l1, c1, a2, l2, c2, rfl, g0, g1, g2, g3, g4⟩ := rep_cells hr' (hc.later hbl hbr)
      have HR := hid hr
      clear hr hr' hc
      have h4' := hK.at h4 n4
      have h5' := hK.at h5 n5
      go_wp2_with (go_at_call 91; refine (bad_one hE hS l[j] _ _ deep (s + sumN N (l.take j)) B4 B5 HR.out hbr HSJ.out.1 (HD.out j _ (List.getElem?_eq_getElem hjl)) HSJ.out.2 h4' h5').mono ?_; rintro e w1 ⟨r, rfl, hr, hrs, hk⟩; have HRR := hid (And.intro hr hrs); clear hr hrs; cases r)
      · go_roundw
        case rel =>
          have T := sumN_take N l j l[j] (List.getElem?_eq_getElem hjl)
          have q := HRR.out
          refine ⟨j + 1, by go_num, by omega, fun i x hi hx => ?_, ?_, hK.trans hk⟩
          · by_cases hij : i = j
            · rw [hij] at hx ⊢
              rw [List.getElem?_eq_getElem hjl] at hx
              cases hx
              exact q.1.1 (by first | rfl | trivial)
            · exact HGJ.out i x (by omega) hx
          · rw [T, ← Nat.add_assoc]
            exact ⟨q.2 (by first | rfl | trivial), HG.out _ _ _ HSJ.out.2 (q.1.1 (by first | rfl | trivial))⟩
        case measure => simp [intOf]; omega
      · go_ret
        exact ⟨j, rfl, iff_of_false (by omega) (fun h => by have := HRR.out.1.2 (h j _ (List.getElem?_eq_getElem hjl)); cases this), fun h => by omega, hK.trans hk⟩
    · have hjl' : ¬ (j : Int) < l.length := by omega
      have hje : j = l.length := by omega
      go_wp2_with fail
      go_ret
      refine ⟨-1, rfl, iff_of_true (by omega) (fun i x hx => HGJ.out i x (by have := (List.getElem?_eq_some_iff.1 hx).1; omega) hx), fun _ => ?_, hK⟩
      have q := HSJ.out
      rw [hje, List.take_length] at q
      exact q

theorem contains_l {d : Nat} (hE : EachOk F P w0 S G N d) (hP : w0.heap.size ≤ P) (hS : ∀ s w w', S s w → Below w.heap.size w w' → S s w') (hG : ∀ x deep s, s ≤ 300 → G x deep s → s + N x ≤ 300)
    (l : List V) (al : Option Addr) (cl : Nat) (w : World) (deep s B4 B5 : Nat) (hl : l.length ≤ maxLen)
    (hL : ∀ (i : Nat) (x : V), l[i]? = some x → ∃ b off c, al = some ⟨b, off, none⟩ ∧ b < w0.heap.size ∧ CellsAt w0 b (off + i * 5) c ∧ RepN d w0 x c) (hdp : ∀ (i : Nat) (x : V), l[i]? = some x → deep + 1 + x.dep ≤ 2000000)
    (hb : Below w0.heap.size w0 w) (hs : S s w) (hs3 : s ≤ 300) (n4 : B4 ≠ P) (n5 : B5 ≠ P)
    (h4 : At w B4 3 #[.int .i64 deep]) (h5 : At w B5 95 #[F]) :
    Calls Tryd.prog 92 #[.slice al l.length cl, .func (.func 91) #[] #[.pointer (some ⟨B4, 0, none⟩), .pointer (some ⟨B5, 0, none⟩)]] w fun e w' => ∃ r : Bool, e = .returned (.bool r) ∧ (r = false ↔ Thr G N l (deep + 1) s) ∧ (r = false → S (s + sumN N l) w' ∧ s + sumN N l ≤ 300) ∧ KeepBut P w w' := by
  have H := hid (index_l hE hP hS hG l al cl w deep s B4 B5 hl hL hdp hb hs hs3 n4 n5 h4 h5)
  clear hE hL hdp hb hs hs3 h4 h5 hS hG
  go_enter Tryd.func92, Tryd.ntmps92
  go_wp2_with (go_at_call 107; refine H.out.mono ?_; rintro e w1 ⟨r, rfl, hr, hrs, hk⟩; have HRR := hid (And.intro hr hrs); clear hr hrs)
  go_ret
  have q := HRR.out
  exact ⟨_, rfl, by rw [← q.1]; simp, fun h => q.2 (by simpa using h), hk⟩

theorem bad_field {d : Nat} (hE : EachOk F P w0 S G N d) (hS : ∀ s w w', S s w → Below w.heap.size w w' → S s w')
    (nm : ByteArray) (v : V) (cs : List Value) (w : World) (deep s B4 B5 B7 : Nat) (hv : RepN d w0 v cs) (hb : Below w0.heap.size w0 w) (hs : S s w) (hd : deep + 1 + v.dep ≤ 2000000) (hs3 : s ≤ 300)
    (h4 : At w B4 3 #[.int .i64 deep]) (h5 : At w B5 95 #[F]) (h7 : At w B7 65 #[.func (.func 91) #[] #[.pointer (some ⟨B4, 0, none⟩), .pointer (some ⟨B5, 0, none⟩)]]) :
    Calls Tryd.prog 94 #[.agg (.string nm :: cs).toArray, .pointer (some ⟨B7, 0, none⟩)] w fun e w' => ∃ r : Bool, e = .returned (.bool r) ∧ (r = false ↔ G v (deep + 1) s) ∧ (r = false → S (s + N v) w') ∧ KeepBut P w w' := by
  obtain ⟨d', rfl⟩ := hv.inv
  have H := hid (fun w1 hb1 hs1 h41 h51 => bad_one hE hS v cs w1 deep s B4 B5 hv hb1 hs1 hd hs3 h41 h51)
  have HS := hid hs
  have HSS := hid hS
  obtain ⟨al, af, cl, cf, rfl, _⟩ := hv
  have c7 := h7.cell 0
  have l7 := h7.lt
  clear hs hE hS
  simp at c7
  go_enter Tryd.func94, Tryd.ntmps94
  go_wp2_with (go_at_call 91; refine (H.out _ (hb.alloc hb.size _) (HSS.out _ _ _ HS.out (by go_grown)) (h4.alloc _) (h5.alloc _)).mono ?_; rintro e w1 ⟨r, rfl, hr, hrs, hk⟩; have HRR := hid (And.intro hr hrs); clear hr hrs)
  go_ret
  exact ⟨r, rfl, HRR.out.1, HRR.out.2, (KeepBut.of (by go_grown)).trans hk⟩
/-- The first that is bad, in a list. -/
theorem index_f {d : Nat} (hE : EachOk F P w0 S G N d) (hP : w0.heap.size ≤ P) (hS : ∀ s w w', S s w → Below w.heap.size w w' → S s w') (hG : ∀ x deep s, s ≤ 300 → G x deep s → s + N x ≤ 300)
    (l : List (ByteArray × V)) (al : Option Addr) (cl : Nat) (w : World) (deep s B4 B5 B7 : Nat) (hl : l.length ≤ maxLen)
    (hL : ∀ (i : Nat) (q : ByteArray × V), l[i]? = some q → ∃ b off c, al = some ⟨b, off, none⟩ ∧ b < w0.heap.size ∧ q.1.size ≤ maxLen ∧ w0.cell? ⟨b, off + i * 6, none⟩ = some (.string q.1) ∧ CellsAt w0 b (off + i * 6 + 1) c ∧ RepN d w0 q.2 c) (hdp : ∀ (i : Nat) (q : ByteArray × V), l[i]? = some q → deep + 1 + q.2.dep ≤ 2000000)
    (hb : Below w0.heap.size w0 w) (hs : S s w) (hs3 : s ≤ 300) (n4 : B4 ≠ P) (n5 : B5 ≠ P) (n7 : B7 ≠ P)
    (h4 : At w B4 3 #[.int .i64 deep]) (h5 : At w B5 95 #[F]) (h7 : At w B7 65 #[.func (.func 91) #[] #[.pointer (some ⟨B4, 0, none⟩), .pointer (some ⟨B5, 0, none⟩)]]) :
    Calls Tryd.prog 75 #[.slice al l.length cl, .func (.func 94) #[] #[.pointer (some ⟨B7, 0, none⟩)]] w fun e w' => ∃ r : Int, e = .returned (.int .i64 r) ∧ (r < 0 ↔ Thr G N (l.map (·.2)) (deep + 1) s) ∧ (r < 0 → S (s + sumN N (l.map (·.2))) w' ∧ s + sumN N (l.map (·.2)) ≤ 300) ∧ KeepBut P w w' := by
  unfold maxLen at hl
  have HL := hid hL
  have HD := hid hdp
  have HS := hid hs
  have HB := hid hb
  have HG := hid hG
  have HS3 := hid hs3
  clear hL hdp hs hb hG hs3
  go_enter Tryd.func75, Tryd.ntmps75
  go_wp2_with fail
  go_loopw [8] (fun i wr => ∃ j : Nat, i = .int .i64 j ∧ j ≤ l.length ∧ (∀ (i : Nat) (q : ByteArray × V), i < j → l[i]? = some q → G q.2 (deep + 1) (s + sumN N ((l.take i).map (·.2)))) ∧ (S (s + sumN N ((l.take j).map (·.2))) wr ∧ s + sumN N ((l.take j).map (·.2)) ≤ 300) ∧ KeepBut P w wr) (fun i _ => l.length - (intOf i).toNat)
  case atStart => exact ⟨0, rfl, Nat.zero_le _, fun i x hi => by omega, by simpa [sumN] using ⟨HS.out, HS3.out⟩, KeepBut.refl _ _⟩
  case round =>
    obtain ⟨j, rfl, hj, hg, hsj, hK⟩ := hrel
    have HGJ := hid hg
    have HSJ := hid hsj
    clear hg hsj
    by_cases hjl : j < l.length
    · have hjl' : (j : Int) < l.length := by omega
      have hbr := hK.below HB.out hP
      obtain ⟨b, off, c, rfl, hbl, _, hcn, hc, hr⟩ := HL.out j l[j] (List.getElem?_eq_getElem hjl)
      have hr' := hr.later hbr
      obtain ⟨k1, n1, s1, a1, l1, c1, a2, l2, c2, rfl, g0, g1, g2, g3, g4⟩ := rep_cells hr' (hc.later hbl hbr)
      have gn := (hbr.cell (p := ⟨b, off + j * 6, none⟩) hbl).trans hcn
      have HR := hid hr
      clear hr hr' hc hcn
      have h4' := hK.at h4 n4
      have h5' := hK.at h5 n5
      have h7' := hK.at h7 n7
      go_wp2_with (go_at_call 94; refine (bad_field hE hS l[j].1 l[j].2 _ _ deep (s + sumN N ((l.take j).map (·.2))) B4 B5 B7 HR.out hbr HSJ.out.1 (HD.out j _ (List.getElem?_eq_getElem hjl)) HSJ.out.2 h4' h5' h7').mono ?_; rintro e w1 ⟨r, rfl, hr, hrs, hk⟩; have HRR := hid (And.intro hr hrs); clear hr hrs; cases r)
      · go_roundw
        case rel =>
          have T : sumN N ((l.take (j + 1)).map (·.2)) = sumN N ((l.take j).map (·.2)) + N l[j].2 := by
            rw [List.map_take, List.map_take]
            exact sumN_take N (l.map (·.2)) j l[j].2 (by simp [hjl])
          have q := HRR.out
          refine ⟨j + 1, by go_num, by omega, fun i x hi hx => ?_, ?_, hK.trans hk⟩
          · by_cases hij : i = j
            · rw [hij] at hx ⊢
              rw [List.getElem?_eq_getElem hjl] at hx
              cases hx
              exact q.1.1 (by first | rfl | trivial)
            · exact HGJ.out i x (by omega) hx
          · rw [T, ← Nat.add_assoc]
            exact ⟨q.2 (by first | rfl | trivial), HG.out _ _ _ HSJ.out.2 (q.1.1 (by first | rfl | trivial))⟩
        case measure => simp [intOf]; omega
      · go_ret
        exact ⟨j, rfl, iff_of_false (by omega) (fun h => by have := HRR.out.1.2 (by rw [List.map_take]; exact h j _ (by simp [hjl])); cases this), fun h => by omega, hK.trans hk⟩
    · have hjl' : ¬ (j : Int) < l.length := by omega
      have hje : j = l.length := by omega
      go_wp2_with fail
      go_ret
      refine ⟨-1, rfl, iff_of_true (by omega) (fun i x hx => by
        rw [List.getElem?_map] at hx
        obtain ⟨y, hy, rfl⟩ := Option.map_eq_some_iff.1 hx
        rw [← List.map_take]
        exact HGJ.out i y (by have := (List.getElem?_eq_some_iff.1 hy).1; omega) hy), fun _ => ?_, hK⟩
      have q := HSJ.out
      rw [hje, List.take_length] at q
      exact q

theorem contains_f {d : Nat} (hE : EachOk F P w0 S G N d) (hP : w0.heap.size ≤ P) (hS : ∀ s w w', S s w → Below w.heap.size w w' → S s w') (hG : ∀ x deep s, s ≤ 300 → G x deep s → s + N x ≤ 300)
    (l : List (ByteArray × V)) (al : Option Addr) (cl : Nat) (w : World) (deep s B4 B5 B7 : Nat) (hl : l.length ≤ maxLen)
    (hL : ∀ (i : Nat) (q : ByteArray × V), l[i]? = some q → ∃ b off c, al = some ⟨b, off, none⟩ ∧ b < w0.heap.size ∧ q.1.size ≤ maxLen ∧ w0.cell? ⟨b, off + i * 6, none⟩ = some (.string q.1) ∧ CellsAt w0 b (off + i * 6 + 1) c ∧ RepN d w0 q.2 c) (hdp : ∀ (i : Nat) (q : ByteArray × V), l[i]? = some q → deep + 1 + q.2.dep ≤ 2000000)
    (hb : Below w0.heap.size w0 w) (hs : S s w) (hs3 : s ≤ 300) (n4 : B4 ≠ P) (n5 : B5 ≠ P) (n7 : B7 ≠ P)
    (h4 : At w B4 3 #[.int .i64 deep]) (h5 : At w B5 95 #[F]) (h7 : At w B7 65 #[.func (.func 91) #[] #[.pointer (some ⟨B4, 0, none⟩), .pointer (some ⟨B5, 0, none⟩)]]) :
    Calls Tryd.prog 93 #[.slice al l.length cl, .func (.func 94) #[] #[.pointer (some ⟨B7, 0, none⟩)]] w fun e w' => ∃ r : Bool, e = .returned (.bool r) ∧ (r = false ↔ Thr G N (l.map (·.2)) (deep + 1) s) ∧ (r = false → S (s + sumN N (l.map (·.2))) w' ∧ s + sumN N (l.map (·.2)) ≤ 300) ∧ KeepBut P w w' := by
  have H := hid (index_f hE hP hS hG l al cl w deep s B4 B5 B7 hl hL hdp hb hs hs3 n4 n5 n7 h4 h5 h7)
  clear hE hL hdp hb hs hs3 h4 h5 hS hG
  go_enter Tryd.func93, Tryd.ntmps93
  go_wp2_with (go_at_call 75; refine H.out.mono ?_; rintro e w1 ⟨r, rfl, hr, hrs, hk⟩; have HRR := hid (And.intro hr hrs); clear hr hrs)
  go_ret
  have q := HRR.out
  exact ⟨_, rfl, by rw [← q.1]; simp, fun h => q.2 (by simpa using h), hk⟩
end
end Go.Proofs.YtidillbpoklnjaaDoor
