/-
  The program's own answer whether names may be, and rise.
-/
import Derived.Test.YtidillbpoklnjaaDoorVg
import Derived.Test.YtidillbpoklnjaaDoorVe
namespace Go.Proofs.YtidillbpoklnjaaDoor
open Go.RowKit
set_option maxRecDepth 100000

theorem At.setOne {w : World} {b : Nat} {t : TypeId} {u : Value} (h : At w b t #[u]) (v : Value) : At (w.setCell ⟨b, 0, none⟩ v) b t #[v] := by
  unfold At at *
  simp [World.setCell, Array.getElem?_modify, h]
theorem KeepBut.setCell {P : Nat} {w w' : World} (h : KeepBut P w w') (o : Nat) (v : Value) : KeepBut P w (w'.setCell ⟨P, o, none⟩ v) :=
  h.trans ⟨rfl, rfl, rfl, by simp [World.setCell], fun k _ hp => Below.heap_setCell _ _ _ _ hp⟩
/-- A name that may be, behind another one. -/
def NameAfter (prev nm : ByteArray) : Prop := nmOk nm = true ∧ risesB prev nm = true
theorem bytesLess_nil (l : List UInt8) : Op.bytesLess l [] = false := by cases l <;> rfl
theorem after_empty (nm : ByteArray) : NameAfter ⟨#[]⟩ nm ↔ nmOk nm = true := by
  refine ⟨fun h => h.1, fun h => ⟨h, ?_⟩⟩
  unfold risesB
  rw [ByteArray.toList_eq (⟨#[]⟩ : ByteArray)]
  show (!(Op.bytesLess nm.toList [] || nm.toList == [])) = true
  rw [bytesLess_nil]
  have : nm.toList ≠ [] := fun e => by
    have := (toList_nil nm).1 e
    rw [nmOk_len (by omega)] at h
    cases h
  simpa using this

theorem name_one (prev nm : ByteArray) (c0 c1 c2 c3 c4 : Value) (w : World) (P : Nat) (hP : At w P 9 #[.string prev]) (hn : nm.size ≤ maxLen) :
    Calls Tryd.prog 108 #[.agg #[.string nm, c0, c1, c2, c3, c4], .pointer (some ⟨P, 0, none⟩)] w fun e w' => ∃ r : Bool, e = .returned (.bool r) ∧ (r = false ↔ NameAfter prev nm) ∧ At w' P 9 #[.string nm] ∧ KeepBut P w w' := by
  have c := hP.cell 0
  have l := hP.lt
  have fr := hP.free 0
  simp at c
  go_enter Tryd.func108, Tryd.ntmps108
  cases hok : nmOk nm
  · have HOK := hid hok
    clear hok
    go_wp2_with (go_at_call 35; refine (vNameMay nm _ hn).mono ?_; rw [HOK.out]; rintro e w1 ⟨rfl, rfl⟩)
    go_ret
    exact ⟨true, rfl, iff_of_false (by simp) (fun h => absurd (HOK.out.symm.trans h.1) Bool.false_ne_true), (hP.setOne _).alloc _, ((KeepBut.refl _ _).setCell _ _).trans (KeepBut.of ((Below.refl _ _).alloc (Nat.le_refl _) _))⟩
  · have HOK := hid hok
    clear hok
    cases hle : (Op.bytesLess nm.toList prev.toList || nm.toList == prev.toList)
    all_goals
      have HLE := hid (show risesB prev nm = _ from congrArg Bool.not hle)
      go_wp2_with (go_at_call 35; refine (vNameMay nm _ hn).mono ?_; rw [HOK.out]; rintro e w1 ⟨rfl, rfl⟩)
      go_ret
      refine ⟨_, rfl, ?_, (hP.setOne _).alloc _, ((KeepBut.refl _ _).setCell _ _).trans (KeepBut.of ((Below.refl _ _).alloc (Nat.le_refl _) _))⟩
      first
        | exact iff_of_true rfl ⟨HOK.out, HLE.out⟩
        | exact iff_of_false (by simp) (fun h => absurd (HLE.out.symm.trans h.2) Bool.false_ne_true)

theorem index_nm {d : Nat} (l : List (ByteArray × V)) (al : Option Addr) (cl : Nat) (w0 w : World) (P : Nat) (hl : l.length ≤ maxLen)
    (hL : ∀ (i : Nat) (q : ByteArray × V), l[i]? = some q → ∃ b off c, al = some ⟨b, off, none⟩ ∧ b < w0.heap.size ∧ q.1.size ≤ maxLen ∧ w0.cell? ⟨b, off + i * 6, none⟩ = some (.string q.1) ∧ CellsAt w0 b (off + i * 6 + 1) c ∧ RepN d w0 q.2 c)
    (hb : Below w0.heap.size w0 w) (hP0 : w0.heap.size ≤ P) (hP : At w P 9 #[.string ⟨#[]⟩]) :
    Calls Tryd.prog 75 #[.slice al l.length cl, .func (.func 108) #[] #[.pointer (some ⟨P, 0, none⟩)]] w fun e w' => ∃ r : Int, e = .returned (.int .i64 r) ∧ (r < 0 ↔ Names l) ∧ KeepBut P w w' := by
  unfold maxLen at hl
  have HL := hid hL
  have HB := hid hb
  clear hL hb
  go_enter Tryd.func75, Tryd.ntmps75
  go_wp2_with fail
  go_loopw [8] (fun i wr => ∃ (j : Nat) (prev : ByteArray), i = .int .i64 j ∧ j ≤ l.length ∧ (∀ (i : Nat) (q : ByteArray × V), i < j → l[i]? = some q → nmOk q.1 = true ∧ ∀ (j : Nat) (p : ByteArray × V), i = j + 1 → l[j]? = some p → risesB p.1 q.1 = true) ∧ ((j = 0 ∧ prev = ⟨#[]⟩) ∨ ∃ i q, j = i + 1 ∧ l[i]? = some q ∧ prev = q.1) ∧ At wr P 9 #[.string prev] ∧ KeepBut P w wr) (fun i _ => l.length - (intOf i).toNat)
  case atStart => exact ⟨0, _, rfl, Nat.zero_le _, fun i x hi => by omega, .inl ⟨rfl, rfl⟩, hP, KeepBut.refl _ _⟩
  case round =>
    obtain ⟨j, prev, rfl, hj, hg, hpv, hA, hK⟩ := hrel
    have HGJ := hid hg
    have HPV := hid hpv
    clear hg hpv
    by_cases hjl : j < l.length
    · have hjl' : (j : Int) < l.length := by omega
      have hbr := hK.below HB.out hP0
      obtain ⟨b, off, c, rfl, hbl, hnl, hcn, hc, hr⟩ := HL.out j l[j] (List.getElem?_eq_getElem hjl)
      have hr' := hr.later hbr
      obtain ⟨k1, n1, s1, a1, l1, c1, a2, l2, c2, rfl, g0, g1, g2, g3, g4⟩ := rep_cells hr' (hc.later hbl hbr)
      have gn := (hbr.cell (p := ⟨b, off + j * 6, none⟩) hbl).trans hcn
      clear hr hr' hc hcn
      go_wp2_with (go_at_call 108; refine (name_one prev l[j].1 _ _ _ _ _ _ P hA hnl).mono ?_; rintro e w1 ⟨r, rfl, hr, hA1, hk⟩; have HRR := hid hr; clear hr; cases r)
      · go_roundw
        case rel =>
          have q := HRR.out.1 (by first | rfl | trivial)
          refine ⟨j + 1, l[j].1, by go_num, by omega, fun i x hi hx => ?_, .inr ⟨j, _, rfl, List.getElem?_eq_getElem hjl, rfl⟩, hA1, hK.trans hk⟩
          by_cases hij : i = j
          · rw [hij, List.getElem?_eq_getElem hjl] at hx
            cases hx
            refine ⟨q.1, fun m p e hp => ?_⟩
            rcases HPV.out with ⟨e0, _⟩ | ⟨i', q', e1, e2, e3⟩
            · omega
            · have : m = i' := by omega
              rw [this, e2] at hp
              cases hp
              rw [← e3]
              exact q.2
          · exact HGJ.out i x (by omega) hx
        case measure => simp [intOf]; omega
      · go_ret
        refine ⟨j, rfl, iff_of_false (by omega) (fun h => ?_), hK.trans hk⟩
        have hN := h j _ (List.getElem?_eq_getElem hjl)
        have bad : ¬ NameAfter prev l[j].1 := fun q => by have := HRR.out.2 q; cases this
        rcases HPV.out with ⟨_, e0⟩ | ⟨i', q', e1, e2, e3⟩
        · rw [e0] at bad
          exact bad ((after_empty _).2 hN.1)
        · rw [e3] at bad
          exact bad ⟨hN.1, hN.2 i' q' e1 e2⟩
    · have hjl' : ¬ (j : Int) < l.length := by omega
      go_wp2_with fail
      go_ret
      exact ⟨-1, rfl, iff_of_true (by omega) (fun i x hx => HGJ.out i x (by have := (List.getElem?_eq_some_iff.1 hx).1; omega) hx), hK⟩

theorem contains_nm {d : Nat} (l : List (ByteArray × V)) (al : Option Addr) (cl : Nat) (w0 w : World) (P : Nat) (hl : l.length ≤ maxLen)
    (hL : ∀ (i : Nat) (q : ByteArray × V), l[i]? = some q → ∃ b off c, al = some ⟨b, off, none⟩ ∧ b < w0.heap.size ∧ q.1.size ≤ maxLen ∧ w0.cell? ⟨b, off + i * 6, none⟩ = some (.string q.1) ∧ CellsAt w0 b (off + i * 6 + 1) c ∧ RepN d w0 q.2 c)
    (hb : Below w0.heap.size w0 w) (hP0 : w0.heap.size ≤ P) (hP : At w P 9 #[.string ⟨#[]⟩]) :
    Calls Tryd.prog 93 #[.slice al l.length cl, .func (.func 108) #[] #[.pointer (some ⟨P, 0, none⟩)]] w fun e w' => ∃ r : Bool, e = .returned (.bool r) ∧ (r = false ↔ Names l) ∧ KeepBut P w w' := by
  have H := hid (index_nm l al cl w0 w P hl hL hb hP0 hP)
  clear hL hb hP
  go_enter Tryd.func93, Tryd.ntmps93
  go_wp2_with (go_at_call 75; refine H.out.mono ?_; rintro e w1 ⟨r, rfl, hr, hk⟩; have HRR := hid hr; clear hr)
  go_ret
  have q := HRR.out
  exact ⟨_, rfl, by rw [← q]; simp, hk⟩

theorem namesMay_says {d : Nat} (l : List (ByteArray × V)) (al : Option Addr) (cl : Nat) (w : World) (hl : l.length ≤ maxLen)
    (hL : ∀ (i : Nat) (q : ByteArray × V), l[i]? = some q → ∃ b off c, al = some ⟨b, off, none⟩ ∧ b < w.heap.size ∧ q.1.size ≤ maxLen ∧ w.cell? ⟨b, off + i * 6, none⟩ = some (.string q.1) ∧ CellsAt w b (off + i * 6 + 1) c ∧ RepN d w q.2 c) :
    Calls Tryd.prog 95 #[.slice al l.length cl] w fun e w' => ∃ r : Bool, e = .returned (.bool r) ∧ (r = true ↔ Names l) ∧ Below w.heap.size w w' := by
  have H := hid (fun w1 hb hP => contains_nm l al cl w w1 w.heap.size hl hL hb (Nat.le_refl _) hP)
  clear hL
  go_enter Tryd.func95, Tryd.ntmps95
  go_wp2_with (go_at_call 93; go_loud (refine (H.out _ (by go_grown) (by first | exact At.new _ _ _ rfl | exact (At.new _ _ _ rfl).setOne _)).mono ?_; rintro e w1 ⟨r, rfl, hr, hk⟩; have HRR := hid hr; clear hr))
  go_ret
  exact ⟨!r, rfl, by have := HRR.out; cases r <;> simpa using this, hk.below (by go_grown) (Nat.le_refl _)⟩
end Go.Proofs.YtidillbpoklnjaaDoor
