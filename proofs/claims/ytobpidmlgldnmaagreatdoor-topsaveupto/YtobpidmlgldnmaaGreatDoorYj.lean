/-
  Joined: Yh, Yi, Yj.
-/
import Derived.Test.YtobpidmlgldnmaaGreatDoorYg
import Derived.Test.YtobpidmlgldnmaaGreatDoorVh

/-
  The program's reader: strings of digits.
-/
namespace Go.Proofs.YtobpidmlgldnmaaGreatDoor
open Go.RowKit
set_option maxRecDepth 100000

theorem Moved.setNew {P : Nat} {a b : World} {s : ByteArray} {k : Nat} (h : Moved P a b s k) {g : Nat} (hg : a.heap.size ≤ g) (hP : P < a.heap.size) (o : Nat) (u : Value) : Moved P a (b.setCell ⟨g, o, none⟩ u) s k :=
  ⟨⟨h.keep.os, h.keep.tape, h.keep.output, by simpa [World.setCell] using h.keep.size, fun i hi hp => (Below.heap_setCell _ _ _ _ (fun e => by
      have e' : g = i := by first | exact e | exact e.symm
      omega)).trans (h.keep.block i hi hp)⟩, (Below.heap_setCell _ _ _ _ (fun e => by
      have e' : g = P := by first | exact e | exact e.symm
      omega)).trans h.at_⟩
set_option maxHeartbeats 2000000 in
theorem yHex (P : Nat) (s : ByteArray) (k : Nat) (w : World) (hR : RdAt w P s k) (hk : k < s.size) (hs : s.size ≤ 100000) :
    Calls Tryz.prog 96 #[.pointer (some ⟨P, 0, none⟩)] w fun e w' => ∃ v' j', e = .returned (.tuple #[v', errN (hexTk (s.data.toList.drop (k + 1)) none [] (k + 1)).1]) ∧ Own8 w' w.heap.size v' (hexTk (s.data.toList.drop (k + 1)) none [] (k + 1)).2.1 ∧ Moved P w w' s j' ∧ Hid ((hexTk (s.data.toList.drop (k + 1)) none [] (k + 1)).1 = 0 → j' = (hexTk (s.data.toList.drop (k + 1)) none [] (k + 1)).2.2 ∧ j' ≤ s.size) := by
  have hPl : P < w.heap.size := At.lt hR
  have c1 := hR.c1
  have f1 := At.free hR 1
  have hm0 := (Moved.refl hR).set (i := (k : Int) + 1) (j := k + 1) (by omega)
  generalize hRR : hexTk (s.data.toList.drop (k + 1)) none [] (k + 1) = R
  have HR0 := hid hRR
  clear hRR
  go_enter Tryz.func96, Tryz.ntmps96
  go_wp2
  go_loopw [4, 5] (fun bv hv wr => ∃ (j : Nat) (p : Option Nat) (pre : List UInt8), j ≤ s.size ∧ hv = .bool (pbool p) ∧ pre.length ≤ j ∧ hexTk (s.data.toList.drop j) p pre j = R ∧ (∀ x, p = some x → x < 16) ∧ Own8 wr w.heap.size bv (pre ++ pend p) ∧ Moved P w wr s j) (fun _ _ wr => s.size - posOf P wr)
  case atStart => exact ⟨k + 1, none, [], by omega, rfl, by simp, HR0.out, (fun _ h => by cases h), Own8.nil _ _, hm0⟩
  case round =>
    clear HR0 hm0 c1 f1
    obtain ⟨j, p, pre, hj, rfl, hpl, hT, hp, hown, hM⟩ := hrel
    have HT := hid hT
    have HP := hid hp
    clear hT hp
    have hbs := hM.keep.size
    have HPOS := hid hM.at_.pos
    by_cases hlt : j < s.size
    · have HS := hid (hexTk_step s j p pre hlt)
      have HTS := hid (HS.out.symm.trans HT.out)
      clear HS HT
      have hc := s[j].toNat_lt
      by_cases h62 : s[j] = 62
      · have q0 : (s[j].toNat : Int) = 62 := by rw [h62]; rfl
        have HRE := hid (show (0, pre ++ pend p, j + 1) = R by
          have h1 := HTS.out
          rw [if_pos (by simpa using h62)] at h1; exact h1)
        have HX := hid (show hexV 62 = -1 from rfl)
        clear HTS h62
        go_wp2_with (first
          | (go_at_call 112; refine (yTake P s j _ hM.at_ hlt hs).mono ?_; rintro e w2 ⟨rfl, hm2⟩)
          | (go_at_call 119; refine (pHexK 62 _ (-1) rfl HX.out _).mono ?_; rintro e w3 ⟨rfl, rfl⟩))
        go_ret2
        rw [← HRE.out]
        exact ⟨_, j + 1, rfl, hown.moved hM.at_ hm2, hM.trans hm2, fun _ => ⟨rfl, by omega⟩⟩
      · have q0 : ((s[j].toNat : Int) == 62) = false := ne_u8 (k := 62) (by omega) h62
        cases b1 : isBl s[j]
        case true =>
          have B1 := hid b1
          have HRE := hid (show hexTk (s.data.toList.drop (j + 1)) p pre (j + 1) = R by
            have h1 := HTS.out
            rw [if_neg (by simpa using h62), if_pos b1] at h1; exact h1)
          clear HTS h62
          go_wp2_with (first
            | (go_at_call 112; refine (yTake P s j _ hM.at_ hlt hs).mono ?_; rintro e w2 ⟨rfl, hm2⟩)
            | (go_at_call 119; refine (pHexK s[j] _ _ rfl rfl _).mono ?_; rintro e w3 ⟨rfl, rfl⟩)
            | (go_at_call 77; refine (pBlank s[j] _).mono ?_; rintro e w4 ⟨rfl, rfl⟩))
          go_roundw
          case rel => exact ⟨j + 1, p, pre, by omega, rfl, by omega, HRE.out, HP.out, hown.moved hM.at_ hm2, hM.trans hm2⟩
          case measure =>
            have e1 := hm2.at_.pos
            have e2 := HPOS.out
            rw [e1, e2]; omega
        case false =>
          have B1 := hid b1
          by_cases hv : hexV s[j] < 0
          · have HRE := hid (show (4, [], 0) = R by
              have h1 := HTS.out
              rw [if_neg (by simpa using h62), if_neg (by rw [b1]; simp), if_pos hv] at h1; exact h1)
            clear HTS h62
            go_wp2_with (first
              | (go_at_call 112; refine (yTake P s j _ hM.at_ hlt hs).mono ?_; rintro e w2 ⟨rfl, hm2⟩)
              | (go_at_call 119; refine (pHexK s[j] _ _ rfl rfl _).mono ?_; rintro e w3 ⟨rfl, rfl⟩)
              | (go_at_call 77; refine (pBlank s[j] _).mono ?_; rintro e w4 ⟨rfl, rfl⟩))
            go_ret2
            rw [← HRE.out]
            exact ⟨_, j + 1, rfl, Own8.nil _ _, hM.trans hm2, fun h => by cases h⟩
          · have hvr := hexV_rng s[j]
            obtain ⟨d, hd⟩ : ∃ d : Nat, hexV s[j] = d := ⟨(hexV s[j]).toNat, by omega⟩
            have hd16 : d < 16 := by omega
            have HD := hid hd
            have HQ := hid (show (hexV s[j]).toNat = d by omega)
            have h62' := hid h62
            have HV0 := hid hv
            clear hvr hv h62 hd
            cases p with
            | none =>
              have HTN := hid (show hexTk (s.data.toList.drop (j + 1)) (some d) pre (j + 1) = R by
                have h1 := HTS.out
                rw [if_neg (by simpa using h62'.out), if_neg (by rw [B1.out]; simp), if_neg HV0.out] at h1
                simp only [HQ.out] at h1
                exact h1)
              clear HTS
              obtain ⟨y, q1, hy⟩ : ∃ y : UInt8, (y.toNat : Int) = 16 * (d : Int) ∧ pend (some d) = [y] := ⟨UInt8.ofNat (16 * d), by simp only [UInt8.toNat_ofNat']; omega, rfl⟩
              have HY := hid hy
              clear hy
              go_wp2_with (first
                | (go_at_call 112; refine (yTake P s j _ hM.at_ hlt hs).mono ?_; rintro e w2 ⟨rfl, hm2⟩)
                | (go_at_call 119; refine (pHexK s[j] _ d rfl HD.out _).mono ?_; rintro e w3 ⟨rfl, rfl⟩)
                | (go_at_call 77; refine (pBlank s[j] _).mono ?_; rintro e w4 ⟨rfl, rfl⟩)
                | (at_builtin; refine wpApp8 rfl (.tmp 26) (.tmp 30) rfl w.heap.size _ _ rfl (hown.moved hM.at_ hm2) _ [y] 1 1 rfl rfl ?cc (by simp [pend]; omega) (Nat.le_trans hbs hm2.keep.size) ?_))
              case cc => first | exact one8 q1 | (unfold byteV; rw [q1])
              intro v5 w5 hown5 hk5
              go_wp2
              go_roundw
              case rel =>
                refine ⟨j + 1, some d, pre, by omega, rfl, by omega, HTN.out, (fun x hx => by cases hx; exact hd16), ?_, ((hM.toB'.trans (hm2.toB hbs)).kept hk5).to⟩
                rw [HY.out]; simpa [pend] using hown5
              case measure =>
                have e1 := ((hM.toB'.trans (hm2.toB hbs)).kept hk5).at_.pos
                have e2 := HPOS.out
                rw [e1, e2]; omega
            | some x =>
              have hx := HP.out x rfl
              have HTN := hid (show hexTk (s.data.toList.drop (j + 1)) none (pre ++ [UInt8.ofNat (16 * x + d)]) (j + 1) = R by
                have h1 := HTS.out
                rw [if_neg (by simpa using h62'.out), if_neg (by rw [B1.out]; simp), if_neg HV0.out] at h1
                simp only [HQ.out] at h1
                exact h1)
              clear HTS
              obtain ⟨g, c, rfl, hBg, hg, _, _, _⟩ := own8_last (xs := pre) (x := UInt8.ofNat (16 * x)) hown
              have hor := or_nib x d hx hd16
              have e1 : ((UInt8.ofNat (16 * x)).toNat : Int) = 16 * (x : Int) := by simp only [UInt8.toNat_ofNat']; omega
              have e2 : ((UInt8.ofNat (16 * x + d)).toNat : Int) = 16 * (x : Int) + d := by simp only [UInt8.toNat_ofNat']; omega
              rw [e1, e2] at hor
              have HLAST := hid (fun (w2 : World) (h : Own8 w2 w.heap.size (.slice (some ⟨g, 0, none⟩) (pre.length + 1) c) (pre ++ [UInt8.ofNat (16 * x)])) =>
                show w2.cell? ⟨g, pre.length, none⟩ = some (.int .u8 (16 * (x : Int))) ∧ w2.frozen? ⟨g, pre.length, none⟩ = false ∧ Own8 (w2.setCell ⟨g, pre.length, none⟩ (.int .u8 (16 * (x : Int) + d))) w.heap.size (.slice (some ⟨g, 0, none⟩) (pre.length + 1) c) (pre ++ [UInt8.ofNat (16 * x + d)]) by
                  obtain ⟨g', c', heq, _, _, h1, h2, h3⟩ := own8_last (xs := pre) (x := UInt8.ofNat (16 * x)) h
                  simp only [Value.slice.injEq, Option.some.injEq, Addr.mk.injEq, true_and, and_true] at heq
                  obtain ⟨rfl, rfl⟩ := heq
                  rw [e1] at h1
                  have h4 := h3 (UInt8.ofNat (16 * x + d))
                  rw [e2] at h4
                  exact ⟨h1, h2, h4⟩)
              clear e1 e2
              have HOW := hid hown
              clear hown
              generalize hn : pre.length = n at *
              have HN := hid hn
              clear hn
              go_wp2_with (first
                | (go_at_call 112; refine (yTake P s j _ hM.at_ hlt hs).mono ?_; rintro e w2 ⟨rfl, hm2⟩; obtain ⟨hcl, hfr, hst⟩ := HLAST.out _ (HOW.out.moved hM.at_ hm2); have HST := hid hst; clear hst)
                | (go_at_call 119; refine (pHexK s[j] _ d rfl HD.out _).mono ?_; rintro e w3 ⟨rfl, rfl⟩)
                | (go_at_call 77; refine (pBlank s[j] _).mono ?_; rintro e w4 ⟨rfl, rfl⟩))
              have hmz := ((hM.trans hm2).setNew hBg hPl n (.int .u8 (16 * (x : Int) + d)))
              go_roundw
              case rel =>
                exact ⟨j + 1, none, pre ++ [UInt8.ofNat (16 * x + d)], by omega, rfl, by have := HN.out; simp; omega, HTN.out, (fun x hx => by cases hx), by simpa [pend] using HST.out, hmz⟩
              case measure =>
                have e1 := hmz.at_.pos
                have e2 := HPOS.out
                rw [e1, e2]; omega
    · have hje : j = s.size := by omega
      have HRE := hid (show (5, [], 0) = R by have h1 := HT.out; rw [hje, hexTk_end] at h1; exact h1)
      have HE := hid (fun (w : World) (h : RdAt w P s j) => yTakeEnd P s w (by rw [← hje]; exact h))
      go_wp2_with (go_at_call 112; refine (HE.out _ hM.at_).mono ?_; rintro e w2 ⟨rfl, hm2⟩)
      go_ret2
      rw [← HRE.out]
      exact ⟨_, s.size, rfl, Own8.nil _ _, hM.trans hm2, fun h => by cases h⟩
end Go.Proofs.YtobpidmlgldnmaaGreatDoor

/-
  The program's reader: a text of bytes; values that hold no others.
-/
namespace Go.Proofs.YtobpidmlgldnmaaGreatDoor
open Go.RowKit
set_option maxRecDepth 100000

/-- The cells of a value that holds no others. -/
def vc (k n : Int) (s : ByteArray) : Array Value := #[.int .i64 k, .int .i64 n, .string s, .slice none 0 0, .slice none 0 0]
def V0 (k n : Int) (s : ByteArray) : V := ⟨k, n, s, [], []⟩
theorem rep_vc (d : Nat) (w : World) (k n : Int) (s : ByteArray) (hs : s.size ≤ maxLen) : RepN (d + 1) w (V0 k n s) (vc k n s).toList :=
  ⟨none, none, 0, 0, rfl, ⟨hs, by simp [V0, maxLen], by simp [V0, maxLen]⟩, fun i x h => by simp [V0] at h, fun i q h => by simp [V0] at h⟩
/-- What text() makes of bytes: an error's number, and them. -/
def textR (e : Int) (xs : List UInt8) : Int := if e ≠ 0 then e else if 200 < xs.length then 2 else 0
def textV (e : Int) (xs : List UInt8) : Array Value := if textR e xs = 0 then vc 3 0 ⟨xs.toArray⟩ else vc 0 0 ⟨#[]⟩
theorem below_box (w : World) (o : Obj) : Below w.heap.size w (w.alloc o) := (Below.refl _ _).alloc (Nat.le_refl _) o
theorem below_set5 {B : Nat} {a w : World} (h : Below B a w) {b : Nat} (hb : B ≤ b) (v0 v1 v2 v3 v4 : Value) :
    Below B a (((((w.setCell ⟨b, 0, none⟩ v0).setCell ⟨b, 1, none⟩ v1).setCell ⟨b, 2, none⟩ v2).setCell ⟨b, 3, none⟩ v3).setCell ⟨b, 4, none⟩ v4) :=
  ((((h.setCell hb _).setCell hb _).setCell hb _).setCell hb _).setCell hb _
set_option maxHeartbeats 1000000 in
theorem yText (e : Int) (B : Nat) (v : Value) (xs : List UInt8) (w : World) (hown : Own8 w B v xs) :
    Calls Tryz.prog 93 #[v, errN e] w fun r w' => r = .returned (.tuple #[.agg (textV e xs), errN (textR e xs)]) ∧ Below w.heap.size w w' := by
  by_cases he : e = 0
  · subst he
    rw [errN_0]
    have hcv := fun (o : Obj) => own8_conv (hown.alloc o)
    obtain ⟨a, c, rfl⟩ := own8_slice hown
    by_cases h : (200 : Int) < xs.length
    · have HT := hid (show textR 0 xs = 2 by unfold textR; rw [if_neg (by simp), if_pos (by omega)])
      have HV := hid (show textV 0 xs = vc 0 0 ⟨#[]⟩ by unfold textV; rw [HT.out, if_neg (by decide)])
      rw [HT.out, HV.out]
      go_enter Tryz.func93, Tryz.ntmps93
      go_wp2
      refine bodyPost_ret (v := .tuple #[.agg (vc 0 0 ⟨#[]⟩), errN 2]) (by simp [results, Tryz.results93, go_sem]; exact ⟨rfl, rfl⟩) rfl ⟨rfl, ?_⟩
      first | exact below_box _ _ | exact below_set5 (below_box _ _) (Nat.le_refl _) _ _ _ _ _
    · have HT := hid (show textR 0 xs = 0 by unfold textR; rw [if_neg (by simp), if_neg (by omega)])
      have HV := hid (show textV 0 xs = vc 3 0 ⟨xs.toArray⟩ by unfold textV; rw [HT.out, if_pos rfl])
      rw [HT.out, HV.out]
      go_enter Tryz.func93, Tryz.ntmps93
      go_wp2
      refine bodyPost_ret (v := .tuple #[.agg (vc 3 0 ⟨xs.toArray⟩), errN 0]) (by simp [results, Tryz.results93, go_sem]; exact ⟨rfl, rfl⟩) rfl ⟨rfl, ?_⟩
      first | exact below_box _ _ | exact below_set5 (below_box _ _) (Nat.le_refl _) _ _ _ _ _
  · have HT := hid (show textR e xs = e by unfold textR; rw [if_pos he])
    have HV := hid (show textV e xs = vc 0 0 ⟨#[]⟩ by unfold textV; rw [HT.out, if_neg he])
    rw [HT.out, HV.out]
    have HE := hid (errN_pos he)
    rw [errN_pos he]
    unfold errV
    go_enter Tryz.func93, Tryz.ntmps93
    go_wp2
    refine bodyPost_ret (v := .tuple #[.agg (vc 0 0 ⟨#[]⟩), .iface 68 (.int .i64 e)]) (by simp [results, Tryz.results93, go_sem]; rfl) rfl ⟨rfl, ?_⟩
    first | exact below_box _ _ | exact below_set5 (below_box _ _) (Nat.le_refl _) _ _ _ _ _
end Go.Proofs.YtobpidmlgldnmaaGreatDoor

/-
  The program's reader: the rest of a reference.
-/
namespace Go.Proofs.YtobpidmlgldnmaaGreatDoor
open Go.RowKit
set_option maxRecDepth 100000

def w0 : ByteArray := ⟨#[48]⟩
def wR : ByteArray := ⟨#[82]⟩
/-- Where a reference ends whose number ends at k. -/
def refP (s : ByteArray) (k : Nat) : Option Nat :=
  if wordP s (skipP s k) = w0 then (if wordP s (skipP s (skipP s k + 1)) = wR then some (skipP s (skipP s k + 1) + 1) else none) else none
theorem word_beq (a b : ByteArray) : (a.toList == b.toList) = decide (a = b) := by
  rw [ByteArray.toList_eq, ByteArray.toList_eq, Bool.eq_iff_iff, beq_iff_eq, decide_eq_true_iff]
  constructor
  · intro h; cases a; cases b; congr 1; simpa using h
  · intro h; rw [h]
/-- Two readers, and two words beside them. -/
structure RefAt (w wr : World) (s : ByteArray) (j : Nat) : Prop where
  below : Below w.heap.size w wr
  at_ : RdAt wr w.heap.size s j
  row : At wr (w.heap.size + 1) 9 #[.string w0, .string wR]
theorem RefAt.moved {w a b : World} {s : ByteArray} {j i : Nat} (h : RefAt w a s j) (m : Moved w.heap.size a b s i) : RefAt w b s i :=
  ⟨m.keep.below h.below (Nat.le_refl _), m.at_, m.keep.at h.row (by omega)⟩
theorem RefAt.set {w a : World} {s : ByteArray} {j : Nat} (h : RefAt w a s j) {x : Int} {i : Nat} (e : x = i) : RefAt w (a.setCell ⟨w.heap.size, 1, none⟩ (.int .i64 x)) s i :=
  h.moved ((Moved.refl h.at_).set e)
theorem yWordN (P : Nat) (s ww : ByteArray) (k : Nat) (w : World) (hR : RdAt w P s k) (hk : k ≤ s.size) (hs : s.size ≤ 100000) (hw : wordP s k = ww) :
    Calls Tryz.prog 110 #[.pointer (some ⟨P, 0, none⟩)] w fun e w' => e = .returned (.string ww) ∧ Moved P w w' s (k + ww.size) := by
  subst hw; exact yWord P s k w hR hk hs
set_option maxHeartbeats 2000000 in
theorem yRefers (P : Nat) (s : ByteArray) (k : Nat) (w : World) (hR : RdAt w P s k) (hk : k ≤ s.size) (hs : s.size ≤ 100000) :
    Calls Tryz.prog 121 #[.pointer (some ⟨P, 0, none⟩)] w fun e w' => e = .returned (.bool (refP s k).isSome) ∧ Moved P w w' s ((refP s k).getD k) := by
  have hPl : P < w.heap.size := At.lt hR
  have c0 := hR.c0
  have c1 := hR.c1
  have HP := hid hR
  have k1l := skipP_le hk
  generalize hk1 : skipP s k = k1 at *
  have HK1 := hid hk1
  clear hk1
  obtain ⟨W1, hW1⟩ : ∃ W1, wordP s k1 = W1 := ⟨_, rfl⟩
  have HW1 := hid hW1
  have z1 := (wordP_size k1l.2).2
  rw [hW1] at z1
  clear hW1
  go_enter Tryz.func121, Tryz.ntmps121
  go_wp2
  go_loopw [11] (fun iv wr => (iv = .int .i64 0 ∧ RefAt w wr s k) ∨ (iv = .int .i64 1 ∧ W1 = w0 ∧ RefAt w wr s (k1 + 1)) ∨ (iv = .int .i64 2 ∧ W1 = w0 ∧ wordP s (skipP s (k1 + 1)) = wR ∧ RefAt w wr s (skipP s (k1 + 1) + 1))) (fun iv _ => 2 - (intOf iv).toNat)
  case atStart =>
    refine .inl ⟨rfl, ?_, ?_, ?_⟩
    · exact ((below_box _ _).alloc (by simp) _)
    · exact (At.new _ _ _ rfl).alloc _
    · exact At.new _ _ _ (by simp)
  case round =>
    rcases hrel with ⟨rfl, h⟩ | ⟨rfl, hW, h⟩ | ⟨rfl, hW, hW2, h⟩
    · have d0 := h.at_.c0
      have d1 := h.at_.c1
      have f1 := At.free h.at_ 1
      have r0 : wr.cell? ⟨w.heap.size + 1, 0, none⟩ = some (.string w0) := At.cell h.row 0
      have HSK := hid (fun (w : World) => pSkipN s k w hk hs)
      rw [HK1.out] at HSK
      by_cases hw : W1 = w0
      · have hb : (W1.toList == w0.toList) = true := by rw [word_beq]; exact decide_eq_true hw
        have HWW := hid hw
        clear hw
        go_wp2_with (first
          | (go_at_call 55; refine (HSK.out _).mono ?_; rintro e w1 ⟨rfl, rfl⟩)
          | (go_at_call 110; go_must (refine (yWordN w.heap.size s W1 k1 _ (h.set (x := (k1 : Int)) (i := k1) rfl).at_ k1l.2 hs HW1.out).mono ?_); rintro e w2 ⟨rfl, hm2⟩))
        go_roundw
        case rel =>
          refine .inr (.inl ⟨rfl, HWW.out, ?_⟩)
          have h2 := (h.set (x := (k1 : Int)) (i := k1) rfl).moved hm2
          rw [HWW.out] at h2
          exact h2
        case measure => simp [intOf]
      · have hb : (W1.toList == w0.toList) = false := by rw [word_beq]; exact decide_eq_false hw
        have HRN := hid (show refP s k = none by unfold refP; rw [HK1.out, HW1.out, if_neg hw])
        clear hw
        go_wp2_with (first
          | (go_at_call 55; refine (HSK.out _).mono ?_; rintro e w1 ⟨rfl, rfl⟩)
          | (go_at_call 110; go_must (refine (yWordN w.heap.size s W1 k1 _ (h.set (x := (k1 : Int)) (i := k1) rfl).at_ k1l.2 hs HW1.out).mono ?_); rintro e w2 ⟨rfl, hm2⟩))
        go_ret
        rw [HRN.out]
        refine ⟨rfl, (Moved.refl HP.out).below hPl ?_⟩
        exact ((h.set (x := (k1 : Int)) (i := k1) rfl).moved hm2).below
    · have d0 := h.at_.c0
      have d1 := h.at_.c1
      have f1 := At.free h.at_ 1
      have r1 : wr.cell? ⟨w.heap.size + 1, 1, none⟩ = some (.string wR) := At.cell h.row 1
      have hsz : k1 + 1 ≤ s.size := by rw [hW] at z1; exact z1
      have k3l := skipP_le hsz
      have HSK := hid (fun (w : World) => pSkipN s (k1 + 1) w hsz hs)
      obtain ⟨W2, hW2⟩ : ∃ W2, wordP s (skipP s (k1 + 1)) = W2 := ⟨_, rfl⟩
      have HW2 := hid hW2
      rw [hW2]
      have HWW := hid hW
      clear hW2 hW
      generalize hk3 : skipP s (k1 + 1) = k3 at *
      have HK3 := hid hk3
      clear hk3
      by_cases hw : W2 = wR
      · have hb : (W2.toList == wR.toList) = true := by rw [word_beq]; exact decide_eq_true hw
        have HWW2 := hid hw
        clear hw
        go_wp2_with (first
          | (go_at_call 55; refine (HSK.out _).mono ?_; rintro e w1 ⟨rfl, rfl⟩)
          | (go_at_call 110; go_must (refine (yWordN w.heap.size s W2 k3 _ (h.set (x := (k3 : Int)) (i := k3) rfl).at_ k3l.2 hs HW2.out).mono ?_); rintro e w2 ⟨rfl, hm2⟩))
        go_roundw
        case rel =>
          refine .inr (.inr ⟨rfl, HWW.out, HWW2.out, ?_⟩)
          have h2 := (h.set (x := (k3 : Int)) (i := k3) rfl).moved hm2
          rw [HWW2.out] at h2
          exact h2
        case measure => simp [intOf]
      · have hb : (W2.toList == wR.toList) = false := by rw [word_beq]; exact decide_eq_false hw
        have HRN := hid (show refP s k = none by unfold refP; rw [HK1.out, HW1.out, if_pos HWW.out, HK3.out, HW2.out, if_neg hw])
        clear hw
        go_wp2_with (first
          | (go_at_call 55; refine (HSK.out _).mono ?_; rintro e w1 ⟨rfl, rfl⟩)
          | (go_at_call 110; go_must (refine (yWordN w.heap.size s W2 k3 _ (h.set (x := (k3 : Int)) (i := k3) rfl).at_ k3l.2 hs HW2.out).mono ?_); rintro e w2 ⟨rfl, hm2⟩))
        go_ret
        rw [HRN.out]
        refine ⟨rfl, (Moved.refl HP.out).below hPl ?_⟩
        exact ((h.set (x := (k3 : Int)) (i := k3) rfl).moved hm2).below
    · have d0 := h.at_.c0
      have d1 := h.at_.c1
      have HRN := hid (show refP s k = some (skipP s (k1 + 1) + 1) by unfold refP; rw [HK1.out, HW1.out, if_pos hW, if_pos hW2])
      have hM := (Moved.refl HP.out).below hPl h.below
      have p0 := hM.at_.c0
      have p1 := hM.at_.c1
      have g0 := At.free hM.at_ 0
      have g1 := At.free hM.at_ 1
      generalize skipP s (k1 + 1) = k3 at *
      go_wp2
      go_ret
      rw [HRN.out]
      refine ⟨rfl, (hM.keep.set 0 _).set 1 _, ?_⟩
      have h1 := heap_setCell_same wr P 0 _ _ (.string s) hM.at_
      exact heap_setCell_same _ P 1 _ _ _ h1
end Go.Proofs.YtobpidmlgldnmaaGreatDoor
