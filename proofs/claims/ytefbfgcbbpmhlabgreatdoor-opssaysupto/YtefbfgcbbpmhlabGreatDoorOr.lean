/-
  Joined: Om, Op, Or.
-/
import Derived.Test.YtefbfgcbbpmhlabGreatDoorOe
import Derived.Test.YtefbfgcbbpmhlabGreatDoorOl
import Derived.Test.YtefbfgcbbpmhlabGreatDoorPz
import Derived.Test.YtefbfgcbbpmhlabGreatDoorOk
import Derived.Test.YtefbfgcbbpmhlabGreatDoorOg

/-
  What is written of one operator: the program's.
-/
namespace Go.Proofs.YtefbfgcbbpmhlabGreatDoor
open Go.RowKit
set_option maxRecDepth 100000

theorem nameMay_iz (s : ByteArray) (w : World) (hs : s.size ≤ maxLen) {r : Bool} (h : opMay s = r) : Calls Tryz.prog 126 #[.string s] w fun e w' => e = .returned (.bool r) ∧ w' = w := by
  subst h; exact nameMay_says s w hs
theorem argsT_long : ∀ (l : List V), argsF l = 0 → (argsT l).length ≤ 49 * bulkL l
  | [], _ => by simp [argsT]
  | x :: l, h => by
    rw [argsF] at h
    by_cases hx : faultV x ≠ 0
    · rw [if_pos hx] at h; exact absurd h hx
    · rw [if_neg hx] at h
      have ih := argsT_long l h
      have hs : x.Shp := by
        rcases fault_cases x with ⟨_, q, _⟩ | q | q
        · exact q
        · exact absurd (by rw [q]; decide) hx
        · exact absurd (by rw [q]; decide) hx
      have a := txt_long x hs
      have b := cnt_le_bulk x
      unfold argsT at ih ⊢
      rw [List.flatMap_cons, bulkL]
      simp only [List.length_append, List.length_cons, List.length_nil]
      omega
theorem bulkL_tk : ∀ (l : List V) (k : Nat), bulkL (l.take k) ≤ bulkL l
  | [], k => by simp [bulkL]
  | x :: l, 0 => by simp [bulkL]
  | x :: l, k + 1 => by have := bulkL_tk l k; rw [List.take_succ_cons, bulkL, bulkL]; omega
theorem argsF_first {l : List V} {k : Nat} {x : V} (h : argsF (l.take k) = 0) (hx : l[k]? = some x) (hf : faultV x ≠ 0) : argsF l = faultV x := by
  have e : l = l.take k ++ x :: l.drop (k + 1) := by
    have hk := (List.getElem?_eq_some_iff.1 hx).1
    have hd := List.drop_eq_getElem_cons hk
    rw [(List.getElem?_eq_some_iff.1 hx).2] at hd
    rw [← hd, List.take_append_drop]
  rw [e, argsF_append, if_neg (by simp [h]), argsF, if_pos hf]
theorem argsF_more {l : List V} {k : Nat} {x : V} (h : argsF (l.take k) = 0) (hx : l[k]? = some x) (hf : faultV x = 0) : argsF (l.take (k + 1)) = 0 ∧ argsT (l.take (k + 1)) = argsT (l.take k) ++ x.txt ++ [32] := by
  have e : l.take (k + 1) = l.take k ++ [x] := by rw [List.take_add_one, hx]; rfl
  rw [e, argsF_append, if_neg (by simp [h]), argsF, if_neg (by simp [hf])]
  refine ⟨rfl, ?_⟩
  unfold argsT
  rw [List.flatMap_append, List.flatMap_singleton, List.append_assoc]
/-- A line that is being built. -/
structure LineL (w wr : World) (nm : ByteArray) (tA : Value) (xs : List UInt8) : Prop where
  bd : ∃ ad v, (ad = .pointer none ∨ ad = .pointer (some ⟨w.heap.size + 1, 0, none⟩)) ∧ BdC wr (w.heap.size + 1) ad v ∧ Own8 wr (w.heap.size + 2) v xs
  box : At wr w.heap.size 80 #[.string nm, tA]
  below : Below w.heap.size w wr
theorem LineL.later {w a b : World} {nm : ByteArray} {tA : Value} {xs : List UInt8} (h : LineL w a nm tA xs) (hb : Below a.heap.size a b) : LineL w b nm tA xs := by
  obtain ⟨ad, v, h1, h2, h3⟩ := h.bd
  exact ⟨⟨ad, v, h1, At.later h2 hb, Own8.later h3 hb⟩, At.later h.box hb, h.below.trans (hb.mono h.below.size)⟩
theorem LineL.size {w a : World} {nm : ByteArray} {tA : Value} {xs : List UInt8} (h : LineL w a nm tA xs) : w.heap.size + 2 ≤ a.heap.size := by
  obtain ⟨ad, v, h1, h2, h3⟩ := h.bd
  exact At.lt h2
theorem LineL.write {w a : World} {nm : ByteArray} {tA : Value} {xs : List UInt8} (h : LineL w a nm tA xs) (s : ByteArray) (hl : xs.length + s.size ≤ 100000000) :
    Calls Tryz.prog 84 #[.pointer (some ⟨w.heap.size + 1, 0, none⟩), .string s] a fun e w' => e = .returned (.tuple #[.int .i64 s.size, .nilIface]) ∧ LineL w w' nm tA (xs ++ s.data.toList) := by
  have hz := h.size
  obtain ⟨ad, v, h1, h2, h3⟩ := h.bd
  refine (write_says (w.heap.size + 1) (w.heap.size + 2) ad v xs s a (by omega) hz hl h1 h2 h3).mono ?_
  rintro e w' ⟨rfl, ⟨v', q1, q2⟩, hb⟩
  exact ⟨rfl, ⟨_, v', .inr rfl, q1, q2⟩, (hb.block _ (by omega)).trans h.box, h.below.trans (hb.mono (by omega))⟩
theorem LineL.byte {w a : World} {nm : ByteArray} {tA : Value} {xs : List UInt8} (h : LineL w a nm tA xs) (c : UInt8) (n : Int) (hc : (c.toNat : Int) = n) (hl : xs.length ≤ 100000000) :
    Calls Tryz.prog 132 #[.pointer (some ⟨w.heap.size + 1, 0, none⟩), .int .u8 n] a fun e w' => e = .returned .nilIface ∧ LineL w w' nm tA (xs ++ [c]) := by
  subst hc
  have hz := h.size
  obtain ⟨ad, v, h1, h2, h3⟩ := h.bd
  refine (writeByte_says (w.heap.size + 1) (w.heap.size + 2) ad v xs c a (by omega) hz hl h1 h2 h3).mono ?_
  rintro e w' ⟨rfl, ⟨v', q1, q2⟩, hb⟩
  exact ⟨rfl, ⟨_, v', .inr rfl, q1, q2⟩, (hb.block _ (by omega)).trans h.box, h.below.trans (hb.mono (by omega))⟩
theorem LineL.text {w a : World} {nm : ByteArray} {tA : Value} {xs : List UInt8} (h : LineL w a nm tA xs) (h0 : xs ≠ []) :
    Calls Tryz.prog 85 #[.pointer (some ⟨w.heap.size + 1, 0, none⟩)] a fun e w' => e = .returned (.string ⟨xs.toArray⟩) ∧ Below w.heap.size w w' := by
  obtain ⟨ad, v, h1, h2, h3⟩ := h.bd
  refine (bstring_says (w.heap.size + 1) (w.heap.size + 2) ad v xs a h0 h2 h3).mono ?_
  rintro e w' ⟨rfl, hb⟩
  exact ⟨rfl, h.below.trans (hb.mono (by omega))⟩
theorem opMay_few {s : ByteArray} (h : opMay s = true) : s.size ≤ 8 := by
  unfold opMay at h
  simp only [Bool.and_eq_true, decide_eq_true_eq] at h
  omega
set_option maxHeartbeats 4000000 in
theorem lineS (m : Int) (d : Nat) (nm : ByteArray) (A : List V) (tA : Value) (w : World) (hr : Rdy m w) (hn : nm.size ≤ maxLen) (hR : RepN d w (listV5 A) (listC tA)) (hb : bulkL A ≤ 1048576) :
    Calls Tryz.prog 82 #[.agg #[.string nm, tA]] w fun e w' => e = .returned (.tuple #[.string (if opF (nm, A) = 0 then ⟨(opT (nm, A)).toArray⟩ else ⟨#[]⟩), errN (opF (nm, A))]) ∧ Below w.heap.size w w' := by
  obtain ⟨al, cl, rfl, hlA, hL⟩ := rep_list hR
  have HL := hid hL
  unfold maxLen at hlA
  clear hL hR
  cases hop : opMay nm
  · have e0 : opF (nm, A) = 3 := by unfold opF; rw [if_pos hop]
    have hmay := fun (w : World) => nameMay_iz nm w hn hop
    rw [e0]
    go_enter Tryz.func82, Tryz.ntmps82
    go_wp2_with (go_at_call 126; refine (hmay _).mono ?_; rintro e w1 ⟨rfl, hw1⟩; rw [hw1]; clear hw1 w1)
    go_ret2
    exact ⟨rfl, by go_grown⟩
  · have hmay := fun (w : World) => nameMay_iz nm w hn hop
    by_cases h8 : 8 < A.length
    · have h8' : (8 : Int) < A.length := by omega
      have e0 : opF (nm, A) = 10 := by unfold opF; rw [if_neg (by simp [hop]), if_pos h8]
      rw [e0]
      go_enter Tryz.func82, Tryz.ntmps82
      go_wp2_with (go_at_call 126; refine (hmay _).mono ?_; rintro e w1 ⟨rfl, hw1⟩; rw [hw1]; clear hw1 w1)
      go_ret2
      exact ⟨rfl, by go_grown⟩
    · have h8' : ¬ (8 : Int) < A.length := by omega
      obtain ⟨F, hF⟩ : ∃ F, opF (nm, A) = F := ⟨_, rfl⟩
      have HF := hid (show argsF A = F by rw [← hF]; unfold opF; rw [if_neg (by simp [hop]), if_neg h8])
      rw [hF]
      obtain ⟨T, hT⟩ : ∃ T : ByteArray, (if F = 0 then (⟨(opT (nm, A)).toArray⟩ : ByteArray) else ⟨#[]⟩) = T := ⟨_, rfl⟩
      rw [hT]
      have HT := hid hT
      clear hT
      have hn8 := opMay_few hop
      clear hF hop h8
      have hL0 : LineL w ((w.alloc (.cells #[.string nm, .slice al A.length cl] 80)).alloc (.cells #[.pointer none, .slice none 0 0] 151)) nm (.slice al A.length cl) [] := by
        refine ⟨⟨.pointer none, .slice none 0 0, .inl rfl, At.new _ _ _ (by simp), World.ownsRow_nil _ _ _ _⟩, (At.new _ _ _ rfl).alloc _, (below_box w _).alloc (by simp) _⟩
      go_enter Tryz.func82, Tryz.ntmps82
      go_wp2_with (go_at_call 126; refine (hmay _).mono ?_; rintro e w1 ⟨rfl, hw1⟩; rw [hw1]; clear hw1 w1)
      go_loopw [22] (fun i wr => ∃ k : Nat, i = .int .i64 k ∧ k ≤ A.length ∧ Hid (argsF (A.take k) = 0) ∧ LineL w wr nm (.slice al A.length cl) (argsT (A.take k))) (fun i _ => A.length - (intOf i).toNat)
      case atStart => exact ⟨0, rfl, by omega, hid rfl, hL0⟩
      case round =>
        clear hL0
        obtain ⟨k, rfl, hk, HA, hW⟩ := hrel
        have hk0 : (0 : Int) ≤ k := by omega
        have hlen := argsT_long _ HA.out
        have hbt := bulkL_tk A k
        by_cases hkl : k < A.length
        · have hkl' : (k : Int) < A.length := by omega
          obtain ⟨b, off, cs, rfl, hbl, hc, hr0⟩ := HL.out k A[k] (List.getElem?_eq_getElem hkl)
          have hX := List.getElem?_eq_getElem hkl
          have hbx := bulkL_mem A A[k] (List.getElem_mem hkl)
          generalize A[k] = x at hX hr0 hbx
          have HX := hid hX
          have hcx := cnt_le_bulk x
          have q1 := hr0.later hW.below
          obtain ⟨x1, n1, s1, a1, l1, c1, a2, l2, c2, rfl, g0, g1, g2, g3, g4⟩ := rep_cells q1 (hc.later hbl hW.below)
          have zb : b < wr.heap.size := Nat.lt_of_lt_of_le hbl hW.below.size
          have HR := hid q1
          have hrdy := hid (hr.below hW.below)
          clear hX q1 hc hr0
          have hWa := hid (hW.later (below_box wr (.cells #[.int .i64 x1, .int .i64 n1, .string s1, .slice a1 l1 c1, .slice a2 l2 c2] 26)))
          have htx := hid (fun (a : World) (h : Below wr.heap.size wr a) => vText_says (hrdy.out.below h) (HR.out.later h) (by omega))
          by_cases hfx : faultV x = 0
          · obtain ⟨HA2, HT2⟩ := argsF_more HA.out HX.out hfx
            have hlen2 := argsT_long _ HA2
            have hbt2 := bulkL_tk A (k + 1)
            rw [HT2] at hlen2
            simp only [List.length_append, List.length_cons, List.length_nil] at hlen2
            have ext : textOf x = ⟨x.txt.toArray⟩ := by unfold textOf; rw [if_pos hfx]
            have hsz : (⟨x.txt.toArray⟩ : ByteArray).size = x.txt.length := by simp [ByteArray.size]
            rw [ext, hfx, errN_0] at htx
            have hwr := hid (fun (a : World) (h : LineL w a nm (.slice (some ⟨b, off, none⟩) A.length cl) (argsT (A.take k))) => h.write ⟨x.txt.toArray⟩ (by rw [hsz]; omega))
            have hwb := hid (fun (a : World) (h : LineL w a nm (.slice (some ⟨b, off, none⟩) A.length cl) (argsT (A.take k) ++ (⟨x.txt.toArray⟩ : ByteArray).data.toList)) => h.byte 32 32 rfl (by simp; omega))
            have HA2' := hid HA2
            have HT2' := hid HT2
            clear HA2 HT2 hW ext
            go_wp2_with (first | (go_at_call 97; go_must (refine (htx.out _ (by go_grown)).mono ?_); rintro e w1 ⟨rfl, hb1⟩; (have hW1 := hWa.out.later hb1)) | (go_at_call 84; go_must (refine (hwr.out _ hW1).mono ?_); rintro e w2 ⟨rfl, hW2⟩) | (go_at_call 132; go_must (refine (hwb.out _ hW2).mono ?_); rintro e w3 ⟨rfl, hW3⟩))
            refine ⟨⟨k + 1, by go_num, by omega, HA2', ?_⟩, by simp [intOf]; omega⟩
            rw [HT2'.out]; simpa using hW3
          · have HE := hid (show F = faultV x by rw [← HF.out]; exact argsF_first HA.out HX.out hfx)
            have ext : textOf x = ⟨#[]⟩ := by unfold textOf; rw [if_neg hfx]
            have hep := errN_pos hfx
            unfold errV at hep
            have HEP := hid hep
            rw [ext, hep] at htx
            have HFX := hid hfx
            clear hep hfx ext
            go_wp2_with (go_at_call 97; go_must (refine (htx.out _ (by go_grown)).mono ?_); rintro e w1 ⟨rfl, hb1⟩; (have hW1 := hWa.out.later hb1))
            go_ret2
            rw [show T = ⟨#[]⟩ by rw [← HT.out, if_neg (by rw [HE.out]; exact HFX.out)], HE.out, HEP.out]
            exact ⟨rfl, hW1.below⟩
        · have hkl' : ¬ (k : Int) < A.length := by omega
          have hke : k = A.length := by omega
          have HF0 := hid (show F = 0 by rw [← HF.out, ← HA.out, List.take_of_length_le (by omega)])
          have hW2 : LineL w wr nm (.slice al A.length cl) (argsT A) := by rw [List.take_of_length_le (by omega)] at hW; exact hW
          rw [List.take_of_length_le (by omega)] at hlen
          clear hW HA HF
          have hwr := hid (hW2.write nm (by omega))
          have hwb := hid (fun (a : World) (h : LineL w a nm (.slice al A.length cl) (argsT A ++ nm.data.toList)) => h.byte 10 10 rfl (by simp; omega))
          have hwt := hid (fun (a : World) (h : LineL w a nm (.slice al A.length cl) (argsT A ++ nm.data.toList ++ [10])) => h.text (by simp))
          have d0 := At.cell hW2.box 0
          have zw := At.lt hW2.box
          simp at d0
          go_wp2_with (first | (go_at_call 84; go_must (refine hwr.out.mono ?_); rintro e w1 ⟨rfl, hb1⟩) | (go_at_call 132; go_must (refine (hwb.out _ hb1).mono ?_); rintro e w2 ⟨rfl, hb2⟩) | (go_at_call 85; go_must (refine (hwt.out _ hb2).mono ?_); rintro e w3 ⟨rfl, hb3⟩))
          go_ret2
          rw [show T = ⟨(opT (nm, A)).toArray⟩ by rw [← HT.out, if_pos HF0.out], HF0.out, errN_0]
          exact ⟨by simp [opT], hb3⟩
end Go.Proofs.YtefbfgcbbpmhlabGreatDoor

/-
  ops.Write, whole.
-/
namespace Go.Proofs.YtefbfgcbbpmhlabGreatDoor
open Go.RowKit
set_option maxRecDepth 100000

/-- How much operators hold. -/
def opsBulk : List OpP → Nat
  | [] => 0
  | o :: r => 1 + o.1.size + bulkL o.2 + opsBulk r
theorem opsBulk_mem : ∀ (l : List OpP) (o : OpP), o ∈ l → 1 + o.1.size + bulkL o.2 ≤ opsBulk l
  | x :: l, o, h => by
    rw [opsBulk]
    rcases List.mem_cons.1 h with rfl | h
    · omega
    · have := opsBulk_mem l o h; omega
theorem opsBulk_take : ∀ (l : List OpP) (k : Nat), opsBulk (l.take k) ≤ opsBulk l
  | [], k => by simp [opsBulk]
  | x :: l, 0 => by simp [opsBulk]
  | x :: l, k + 1 => by have := opsBulk_take l k; rw [List.take_succ_cons, opsBulk, opsBulk]; omega
theorem opF_zero {o : OpP} (h : opF o = 0) : opMay o.1 = true ∧ o.2.length ≤ 8 ∧ argsF o.2 = 0 := by
  unfold opF at h
  by_cases h1 : opMay o.1 = false
  · rw [if_pos h1] at h; exact absurd h (by decide)
  · rw [if_neg h1] at h
    by_cases h2 : 8 < o.2.length
    · rw [if_pos h2] at h; exact absurd h (by decide)
    · rw [if_neg h2] at h
      exact ⟨by simpa using h1, by omega, h⟩
theorem opT_long {o : OpP} (h : opF o = 0) : (opT o).length ≤ 49 * (1 + o.1.size + bulkL o.2) := by
  have a := argsT_long _ (opF_zero h).2.2
  unfold opT
  simp only [List.length_append, List.length_cons, List.length_nil]
  have : o.1.data.toList.length = o.1.size := by simp
  omega
theorem opT_ne (o : OpP) : opT o ≠ [] := by unfold opT; simp
theorem opsT_long : ∀ (l : List OpP), opsF l = 0 → (opsT l).length ≤ 49 * opsBulk l
  | [], _ => by simp [opsT]
  | x :: l, h => by
    rw [opsF] at h
    by_cases hx : opF x ≠ 0
    · rw [if_pos hx] at h; exact absurd h hx
    · rw [if_neg hx] at h
      have ih := opsT_long l h
      have a := opT_long (show opF x = 0 by simpa using hx)
      unfold opsT at ih ⊢
      rw [List.flatMap_cons, opsBulk]
      simp only [List.length_append]
      omega
theorem opsF_first {l : List OpP} {k : Nat} {x : OpP} (h : opsF (l.take k) = 0) (hx : l[k]? = some x) (hf : opF x ≠ 0) : opsF l = opF x := by
  have e : l = l.take k ++ x :: l.drop (k + 1) := by
    have hk := (List.getElem?_eq_some_iff.1 hx).1
    have hd := List.drop_eq_getElem_cons hk
    rw [(List.getElem?_eq_some_iff.1 hx).2] at hd
    rw [← hd, List.take_append_drop]
  rw [e, opsF_append, if_neg (by simp [h]), opsF, if_pos hf]
theorem opsF_more {l : List OpP} {k : Nat} {x : OpP} (h : opsF (l.take k) = 0) (hx : l[k]? = some x) (hf : opF x = 0) : opsF (l.take (k + 1)) = 0 ∧ opsT (l.take (k + 1)) = opsT (l.take k) ++ opT x := by
  have e : l.take (k + 1) = l.take k ++ [x] := by rw [List.take_add_one, hx]; rfl
  rw [e, opsF_append, if_neg (by simp [h]), opsF, if_neg (by simp [hf])]
  refine ⟨rfl, ?_⟩
  unfold opsT
  rw [List.flatMap_append, List.flatMap_singleton]
/-- A text that is being built. -/
structure WrL (w wr : World) (xs : List UInt8) : Prop where
  bd : ∃ ad v, (ad = .pointer none ∨ ad = .pointer (some ⟨w.heap.size, 0, none⟩)) ∧ BdC wr w.heap.size ad v ∧ Own8 wr (w.heap.size + 1) v xs ∧ (xs = [] → v = .slice none 0 0)
  below : Below w.heap.size w wr
theorem WrL.later {w a b : World} {xs : List UInt8} (h : WrL w a xs) (hb : Below a.heap.size a b) : WrL w b xs := by
  obtain ⟨ad, v, h1, h2, h3, h4⟩ := h.bd
  exact ⟨⟨ad, v, h1, At.later h2 hb, Own8.later h3 hb, h4⟩, h.below.trans (hb.mono h.below.size)⟩
theorem WrL.size {w a : World} {xs : List UInt8} (h : WrL w a xs) : w.heap.size + 1 ≤ a.heap.size := by
  obtain ⟨ad, v, h1, h2, h3, h4⟩ := h.bd
  exact At.lt h2
theorem WrL.write {w a : World} {xs : List UInt8} (h : WrL w a xs) (s : ByteArray) (hs : s.data.toList ≠ []) (hl : xs.length + s.size ≤ 100000000) :
    Calls Tryz.prog 84 #[.pointer (some ⟨w.heap.size, 0, none⟩), .string s] a fun e w' => e = .returned (.tuple #[.int .i64 s.size, .nilIface]) ∧ WrL w w' (xs ++ s.data.toList) := by
  have hz := h.size
  obtain ⟨ad, v, h1, h2, h3, h4⟩ := h.bd
  refine (write_says w.heap.size (w.heap.size + 1) ad v xs s a (by omega) hz hl h1 h2 h3).mono ?_
  rintro e w' ⟨rfl, ⟨v', q1, q2⟩, hb⟩
  exact ⟨rfl, ⟨_, v', .inr rfl, q1, q2, fun e => absurd (List.append_eq_nil_iff.1 e).2 hs⟩, h.below.trans hb⟩
theorem WrL.len {w a : World} {xs : List UInt8} (h : WrL w a xs) :
    Calls Tryz.prog 83 #[.pointer (some ⟨w.heap.size, 0, none⟩)] a fun e w' => e = .returned (.int .i64 xs.length) ∧ w' = a := by
  obtain ⟨ad, v, h1, h2, h3, h4⟩ := h.bd
  exact blen_says w.heap.size (w.heap.size + 1) ad v xs a h2 h3
theorem WrL.text {w a : World} {xs : List UInt8} (h : WrL w a xs) :
    Calls Tryz.prog 85 #[.pointer (some ⟨w.heap.size, 0, none⟩)] a fun e w' => e = .returned (.string ⟨xs.toArray⟩) ∧ Below w.heap.size w w' := by
  obtain ⟨ad, v, h1, h2, h3, h4⟩ := h.bd
  by_cases h0 : xs = []
  · subst h0
    have e4 := h4 rfl
    subst e4
    refine (bstring_none w.heap.size (w.heap.size + 1) ad a h2).mono ?_
    rintro e w' ⟨rfl, hb⟩
    exact ⟨rfl, h.below.trans (hb.mono (by omega))⟩
  · refine (bstring_says w.heap.size (w.heap.size + 1) ad v xs a h0 h2 h3).mono ?_
    rintro e w' ⟨rfl, hb⟩
    exact ⟨rfl, h.below.trans (hb.mono (by omega))⟩
set_option maxHeartbeats 4000000 in
theorem writeS (m : Int) (d : Nat) (L : List OpP) (t : Value) (w : World) (hr : Rdy m w) (hL : OpsN d w t L) (hb : opsBulk L ≤ 1048576) :
    Calls Tryz.prog 33 #[t] w fun e w' => e = .returned (.tuple #[.string (opsW L).1, errN (opsW L).2]) ∧ Below w.heap.size w w' := by
  obtain ⟨al, cl, rfl, hlL, hL⟩ := hL
  have HL := hid hL
  unfold maxLen at hlL
  clear hL
  by_cases h2 : 2000 < L.length
  · have h2' : (2000 : Int) < L.length := by omega
    rw [show opsW L = (eB, 2) by unfold opsW; rw [if_pos h2]]
    go_enter Tryz.func33, Tryz.ntmps33
    go_wp2
    go_ret2
    exact ⟨rfl, by go_grown⟩
  · have h2' : ¬ (2000 : Int) < L.length := by omega
    obtain ⟨R, hR⟩ : ∃ R, opsW L = R := ⟨_, rfl⟩
    rw [hR]
    have HR := hid (show (if opsF L ≠ 0 then (eB, opsF L) else if 20000 < (opsT L).length then (eB, 2) else (⟨(opsT L).toArray⟩, 0)) = R by rw [← hR]; unfold opsW; rw [if_neg h2])
    clear hR
    have hW0 : WrL w (w.alloc (.cells #[.pointer none, .slice none 0 0] 151)) [] :=
      ⟨⟨.pointer none, .slice none 0 0, .inl rfl, At.new _ _ _ rfl, World.ownsRow_nil _ _ _ _, fun _ => rfl⟩, below_box w _⟩
    go_enter Tryz.func33, Tryz.ntmps33
    go_wp2
    go_loopw [15] (fun i wr => ∃ (k : Nat) (xs : List UInt8), i = .int .i64 k ∧ k ≤ L.length ∧ xs.length ≤ 55000000 ∧ Hid (opsF (L.take k) = 0 ∧ (xs = opsT (L.take k) ∨ 20000 < xs.length ∧ 20000 < (opsT (L.take k)).length)) ∧ WrL w wr xs) (fun i _ => L.length - (intOf i).toNat)
    case atStart => exact ⟨0, [], rfl, by omega, by simp, hid ⟨rfl, .inl rfl⟩, hW0⟩
    case round =>
      clear hW0
      obtain ⟨k, xs, rfl, hk, hxl, HA, hW⟩ := hrel
      have hk0 : (0 : Int) ≤ k := by omega
      by_cases hkl : k < L.length
      · have hkl' : (k : Int) < L.length := by omega
        obtain ⟨b, off, tA, rfl, hbl, k0, k1, hsz, hrp⟩ := HL.out k L[k] (List.getElem?_eq_getElem hkl)
        have hX := List.getElem?_eq_getElem hkl
        have hbx := opsBulk_mem L L[k] (List.getElem_mem hkl)
        generalize L[k] = o at hX hrp hbx hsz k0 k1
        obtain ⟨nm, A⟩ := o
        simp only at hrp hbx hsz k0 k1
        obtain ⟨aA, cA, rfl, _, _⟩ := rep_list hrp
        have m0 := (hW.below.cell (p := ⟨b, _, none⟩) hbl).trans k0
        have m1 := (hW.below.cell (p := ⟨b, _, none⟩) hbl).trans k1
        have zb : b < wr.heap.size := Nat.lt_of_lt_of_le hbl hW.below.size
        have hln := hid (fun (a : World) (h : Below wr.heap.size wr a) => lineS m d nm A _ a ((hr.below hW.below).below h) hsz ((hrp.later hW.below).later h) (by omega))
        have hWa := hid (hW.later (below_box wr (.cells #[.string nm, .slice aA A.length cA] 80)))
        by_cases hf : opF (nm, A) = 0
        · obtain ⟨HA2, HT2⟩ := opsF_more HA.out.1 hX hf
          have hlong := opsT_long _ HA2
          have hbt := opsBulk_take L (k + 1)
          rw [HT2] at hlong
          simp only [List.length_append] at hlong
          rw [hf, errN_0, if_pos rfl] at hln
          have hsz2 : (⟨(opT (nm, A)).toArray⟩ : ByteArray).size = (opT (nm, A)).length := by simp [ByteArray.size]
          have hne := opT_ne (nm, A)
          by_cases hfew : xs.length ≤ 20000
          · have hfew' : (xs.length : Int) ≤ 20000 := by omega
            have hxs : xs = opsT (L.take k) := by rcases HA.out.2 with q | q; exact q; omega
            have hlenc := hid (fun (a : World) (h : WrL w a xs) => h.len)
            have hwr := hid (fun (a : World) (h : WrL w a xs) => h.write ⟨(opT (nm, A)).toArray⟩ (by simpa using hne) (by rw [hsz2]; omega))
            have HZ := hid (show xs ++ opT (nm, A) = opsT (L.take (k + 1)) by rw [HT2, ← hxs])
            have hxl2 : xs.length + (opT (nm, A)).length ≤ 55000000 := by rw [hxs]; omega
            have HA2' := hid HA2
            generalize opT (nm, A) = Y at hln hwr HZ hxl2
            clear HA2 HT2 hlong hW hne hsz2 hxs
            go_wp2_with (first | (go_at_call 82; go_must (refine (hln.out _ (by go_grown)).mono ?_); rintro e w1 ⟨rfl, hb1⟩; (have hW1 := hWa.out.later hb1)) | (go_at_call 83; go_must (refine (hlenc.out _ hW1).mono ?_); rintro e w9 ⟨rfl, hw9⟩; rw [hw9]; clear hw9 w9) | (go_at_call 84; go_must (refine (hwr.out _ hW1).mono ?_); rintro e w2 ⟨rfl, hW2⟩))
            refine ⟨⟨k + 1, xs ++ Y, by go_num, by omega, by simp; omega, hid ⟨HA2'.out, .inl HZ.out⟩, by simpa using hW2⟩, by simp [intOf]; omega⟩
          · have hfew' : ¬ (xs.length : Int) ≤ 20000 := by omega
            have hlenc := hid (fun (a : World) (h : WrL w a xs) => h.len)
            have HZ := hid (show opsF (L.take (k + 1)) = 0 ∧ (xs = opsT (L.take (k + 1)) ∨ 20000 < xs.length ∧ 20000 < (opsT (L.take (k + 1))).length) by
              refine ⟨HA2, .inr ⟨by omega, ?_⟩⟩
              rw [HT2]; simp only [List.length_append]
              rcases HA.out.2 with q | q
              · rw [← q]; omega
              · omega)
            generalize opT (nm, A) = Y at hln
            clear HA2 HT2 hlong hW hne hsz2
            go_wp2_with (first | (go_at_call 82; go_must (refine (hln.out _ (by go_grown)).mono ?_); rintro e w1 ⟨rfl, hb1⟩; (have hW1 := hWa.out.later hb1)) | (go_at_call 83; go_must (refine (hlenc.out _ hW1).mono ?_); rintro e w9 ⟨rfl, hw9⟩; rw [hw9]; clear hw9 w9))
            exact ⟨⟨k + 1, xs, by go_num, by omega, hxl, HZ, hW1⟩, by simp [intOf]; omega⟩
        · have HE := hid (show (eB, opF (nm, A)) = R by rw [← HR.out, opsF_first HA.out.1 hX hf, if_pos hf])
          rw [if_neg hf] at hln
          have hep := errN_pos hf
          unfold errV at hep
          have HEP := hid hep
          rw [hep] at hln
          generalize opF (nm, A) = F at hln HE HEP
          clear hep hf hW
          go_wp2_with (go_at_call 82; go_must (refine (hln.out _ (by go_grown)).mono ?_); rintro e w1 ⟨rfl, hb1⟩; (have hW1 := hWa.out.later hb1))
          go_ret2
          rw [← HE.out]
          exact ⟨by simp only; rw [HEP.out]; rfl, hW1.below⟩
      · have hkl' : ¬ (k : Int) < L.length := by omega
        have HA2 := HA.out
        rw [List.take_of_length_le (by omega)] at HA2
        have hlenc := hid hW.len
        by_cases hfew : xs.length ≤ 20000
        · have hfew' : ¬ (20000 : Int) < xs.length := by omega
          have hxs : xs = opsT L := by rcases HA2.2 with q | q; exact q; omega
          have HE := hid (show ((⟨xs.toArray⟩ : ByteArray), (0 : Int)) = R by rw [← HR.out, if_neg (by simp [HA2.1]), ← hxs, if_neg (by omega)])
          have htx := hid hW.text
          clear HA2 hxs HA
          go_wp2_with (first | (go_at_call 83; go_must (refine hlenc.out.mono ?_); rintro e w9 ⟨rfl, hw9⟩; rw [hw9]; clear hw9 w9) | (go_at_call 85; go_must (refine htx.out.mono ?_); rintro e w2 ⟨rfl, hb2⟩))
          go_ret2
          rw [← HE.out]
          exact ⟨by simp only; rw [errN_0]; rfl, hb2⟩
        · have hfew' : (20000 : Int) < xs.length := by omega
          have HE := hid (show (eB, (2 : Int)) = R by
            rw [← HR.out, if_neg (by simp [HA2.1]), if_pos]
            rcases HA2.2 with q | q
            · rw [← q]; omega
            · omega)
          clear HA2 HA
          go_wp2_with (go_at_call 83; go_must (refine hlenc.out.mono ?_); rintro e w9 ⟨rfl, hw9⟩; rw [hw9]; clear hw9 w9)
          go_ret2
          rw [← HE.out]
          exact ⟨rfl, hW.below⟩
end Go.Proofs.YtefbfgcbbpmhlabGreatDoor

/-
  Operators as an argument: what the law asks first, and how they are read.
-/
namespace Go.Proofs.YtefbfgcbbpmhlabGreatDoor
open Go.RowKit
set_option maxRecDepth 100000

set_option maxHeartbeats 4000000 in
theorem lightOps_any (d : Nat) (L : List OpP) (t : Value) (w : World) (hL : OpsN d w t L) :
    Calls Tryz.prog 30 #[t] w fun e w' => (∃ r : Bool, e = .returned (.bool r)) ∧ Below w.heap.size w w' := by
  obtain ⟨al, cl, rfl, hlL, hL⟩ := hL
  have HL := hid hL
  unfold maxLen at hlL
  clear hL
  by_cases h3 : (300 : Int) < L.length
  · go_enter Tryz.func30, Tryz.ntmps30
    go_wp2
    go_ret
    first | exact ⟨⟨_, rfl⟩, by go_grown⟩ | exact ⟨.inl rfl, by go_grown⟩
  · go_enter Tryz.func30, Tryz.ntmps30
    go_wp2
    go_loopw [3, 4] (fun nv i wr => ∃ (k : Nat) (n : Int), nv = .int .i64 n ∧ i = .int .i64 k ∧ k ≤ L.length ∧ Below w.heap.size w wr) (fun _ i _ => L.length - (intOf i).toNat)
    case atStart => exact ⟨0, 0, rfl, rfl, by omega, Below.refl _ _⟩
    case round =>
      obtain ⟨k, n, rfl, rfl, hk, hW⟩ := hrel
      have hk0 : (0 : Int) ≤ k := by omega
      by_cases hkl : k < L.length
      · have hkl' : (k : Int) < L.length := by omega
        obtain ⟨b, off, tA, rfl, hbl, k0, k1, hsz, hrp⟩ := HL.out k L[k] (List.getElem?_eq_getElem hkl)
        generalize L[k] = o at hrp hsz k0 k1
        obtain ⟨nm, A⟩ := o
        simp only at hrp hsz k0 k1
        obtain ⟨aA, cA, rfl, hlA, hLA⟩ := rep_list hrp
        have HLA := hid hLA
        unfold maxLen at hlA
        have m0 := (hW.cell (p := ⟨b, _, none⟩) hbl).trans k0
        have m1 := (hW.cell (p := ⟨b, _, none⟩) hbl).trans k1
        have zb : b < wr.heap.size := Nat.lt_of_lt_of_le hbl hW.size
        clear hLA hrp
        by_cases hn : nm.size ≤ 50
        · have hn' : decide ((50 : Int) < nm.size) = false := decide_eq_false (by omega)
          by_cases ha : A.length ≤ 12
          · have ha' : decide ((12 : Int) < A.length) = false := decide_eq_false (by omega)
            have hn2 : ¬ (50 : Int) < nm.size := by omega
            have ha2 : ¬ (12 : Int) < A.length := by omega
            go_wp2_with fail
            go_loopw [3, 5] (fun nv i wx => ∃ (j : Nat) (n : Int), nv = .int .i64 n ∧ i = .int .i64 j ∧ j ≤ A.length ∧ Below w.heap.size w wx) (fun _ i _ => A.length - (intOf i).toNat)
            case atStart => exact ⟨0, n, rfl, rfl, by omega, hW⟩
            case round =>
              clear m0 m1
              obtain ⟨j, n2, rfl, rfl, hj, hY⟩ := hrel
              have m1 := (hY.cell (p := ⟨b, _, none⟩) hbl).trans k1
              have zb2 : b < wr.heap.size := Nat.lt_of_lt_of_le hbl hY.size
              have hj0 : (0 : Int) ≤ j := by omega
              by_cases hjl : j < A.length
              · have hjl' : (j : Int) < A.length := by omega
                obtain ⟨g, og, cs, rfl, hgl, hc, hr0⟩ := HLA.out j A[j] (List.getElem?_eq_getElem hjl)
                generalize A[j] = x at hr0
                have q1 := hr0.later hY
                obtain ⟨x1, n1, s1, a1, l1, c1, a2, l2, c2, rfl, g0, g1, g2, g3, g4⟩ := rep_cells q1 (hc.later hgl hY)
                have zg : g < wr.heap.size := Nat.lt_of_lt_of_le hgl hY.size
                have HRx := hid q1
                clear q1 hc hr0
                go_wp2_with (go_at_call 37; go_must (refine (weight_any _ 9000 x _ _ (HRx.out.later (by go_grown))).mono ?_); rintro e w1 ⟨⟨z1, rfl⟩, hb1⟩)
                exact ⟨⟨j + 1, _, rfl, by go_num, by omega, hY.trans (hb1.mono hY.size)⟩, by simp [intOf]; omega⟩
              · have hjl' : ¬ (j : Int) < A.length := by omega
                by_cases h9 : (9000 : Int) < n2
                · go_wp2_with fail
                  go_ret
                  first | exact ⟨⟨_, rfl⟩, hY⟩ | exact ⟨.inl rfl, hY⟩ | exact ⟨.inr rfl, hY⟩
                · go_wp2_with fail
                  exact ⟨⟨k + 1, n2, rfl, by go_num, by omega, hY⟩, by simp [intOf]; omega⟩
          · have ha2 : (12 : Int) < A.length := by omega
            have hn2 : ¬ (50 : Int) < nm.size := by omega
            go_wp2
            go_ret
            first | exact ⟨⟨_, rfl⟩, hW⟩ | exact ⟨.inl rfl, hW⟩ | exact ⟨.inr rfl, hW⟩
        · have hn2 : (50 : Int) < nm.size := by omega
          go_wp2
          go_ret
          first | exact ⟨⟨_, rfl⟩, hW⟩ | exact ⟨.inl rfl, hW⟩ | exact ⟨.inr rfl, hW⟩
      · have hkl' : ¬ (k : Int) < L.length := by omega
        go_wp2
        go_ret
        first | exact ⟨⟨_, rfl⟩, hW⟩ | exact ⟨.inl rfl, hW⟩ | exact ⟨.inr rfl, hW⟩
end Go.Proofs.YtefbfgcbbpmhlabGreatDoor
