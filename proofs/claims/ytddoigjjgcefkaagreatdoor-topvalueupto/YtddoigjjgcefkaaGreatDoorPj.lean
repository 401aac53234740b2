/-
  Joined: Zn, Vn, Pj.
-/
import Derived.Test.YtddoigjjgcefkaaGreatDoorPi
import Derived.Test.YtddoigjjgcefkaaGreatDoorZm
import Derived.Test.YtddoigjjgcefkaaGreatDoorVaa
import Derived.Test.YtddoigjjgcefkaaGreatDoorVm
import Derived.Test.YtddoigjjgcefkaaGreatDoorQa
import Derived.BigRegion
import Derived.Deep.CutRange

/-
  The law of blanks.
-/
namespace Go.Proofs.YtddoigjjgcefkaaGreatDoor
open Go.RowKit
set_option maxRecDepth 100000

theorem skipL_note : ∀ (l r : List UInt8), (∀ c ∈ l, c ≠ 10 ∧ c ≠ 13) → skipL (l ++ 10 :: r) true = l.length + 1 + skipL r false
  | [], r, _ => by
    show skipL (10 :: r) true = 0 + 1 + skipL r false
    conv => lhs; unfold skipL
    rw [if_neg (by decide)]
    show skipL r false + 1 = _
    omega
  | c :: l, r, h => by
    obtain ⟨h1, h2⟩ := h c (by simp)
    have ih := skipL_note l r (fun d hd => h d (by simp [hd]))
    show skipL (c :: (l ++ 10 :: r)) true = _
    have e : (c == 37 || (true && c != 10 && c != 13)) = true := by
      have a : (c != 10) = true := by simpa using h1
      have b : (c != 13) = true := by simpa using h2
      rw [a, b]; simp
    conv => lhs; unfold skipL
    rw [e, if_neg (by simp), ih]
    simp; omega
theorem skip_ahead {s note X : ByteArray} (hX : X.data.toList = 32 :: 37 :: (note.data.toList ++ 10 :: s.data.toList)) (hn : ∀ c ∈ note.data.toList, c ≠ 10 ∧ c ≠ 13) : skipP X 0 = (note.size + 3) + skipP s 0 := by
  unfold skipP
  rw [List.drop_zero, List.drop_zero, hX]
  have e1 : skipL (32 :: 37 :: (note.data.toList ++ 10 :: s.data.toList)) false = skipL (37 :: (note.data.toList ++ 10 :: s.data.toList)) false + 1 := by
    conv => lhs; unfold skipL
    rw [if_neg (by decide)]; rfl
  have e2 : skipL (37 :: (note.data.toList ++ 10 :: s.data.toList)) false = skipL (note.data.toList ++ 10 :: s.data.toList) true + 1 := by
    conv => lhs; unfold skipL
    rw [if_neg (by decide)]; rfl
  rw [e1, e2, skipL_note _ _ hn]
  simp; omega
theorem shift_ahead {s note X : ByteArray} (hX : X.data.toList = 32 :: 37 :: (note.data.toList ++ 10 :: s.data.toList)) : Shift (note.size + 3) s X := by
  have hl : X.data.toList = (32 :: 37 :: (note.data.toList ++ [10])) ++ s.data.toList := by rw [hX]; simp
  have hn : (32 :: 37 :: (note.data.toList ++ [10])).length = note.size + 3 := by simp
  refine ⟨?_, fun k => ?_⟩
  · have := congrArg List.length hl
    rw [List.length_append, hn] at this
    simpa using this
  · rw [hl, ← hn, List.drop_append]
    simp
theorem pV_ok {s : ByteArray} {v : V} {z : Nat} (h : pV s 0 = (v, 0, z)) : s.size ≤ 60000 ∧ rdV s 8 0 = (v, 0, z) ∧ faultV v = 0 := by
  unfold pV at h
  have e0 : (0 : Int).toNat = 0 := rfl
  rw [e0] at h
  by_cases h1 : 60000 < s.size ∨ (0 : Int) < 0 ∨ (s.size : Int) < 0
  · rw [if_pos h1] at h; injection h with _ h; injection h with h _; exact absurd h (by decide)
  rw [if_neg h1] at h
  by_cases h2 : (rdV s 8 0).2.1 ≠ 0
  · rw [if_pos h2] at h; injection h with _ h; injection h with h _; exact absurd h h2
  rw [if_neg h2] at h
  by_cases h3 : faultV (rdV s 8 0).1 ≠ 0
  · rw [if_pos h3] at h; injection h with _ h; injection h with h _; exact absurd h h3
  rw [if_neg h3] at h
  refine ⟨by omega, h, ?_⟩
  rw [h] at h3
  simpa using h3
theorem pV_mk {s : ByteArray} {v : V} {z : Nat} (hs : s.size ≤ 60000) (h : rdV s 8 0 = (v, 0, z)) (hf : faultV v = 0) : pV s 0 = (v, 0, z) := by
  unfold pV
  have e0 : (0 : Int).toNat = 0 := rfl
  rw [e0, if_neg (by omega), h, if_neg (by simp), if_neg (by simp [hf])]
theorem pV_ahead {s note X : ByteArray} {v : V} {z : Nat} (h : pV s 0 = (v, 0, z)) (hX : X.data.toList = 32 :: 37 :: (note.data.toList ++ 10 :: s.data.toList)) (hn : ∀ c ∈ note.data.toList, c ≠ 10 ∧ c ≠ 13) (hs : X.size ≤ 60000) : pV X 0 = (v, 0, (note.size + 3) + z) := by
  obtain ⟨_, h2, h3⟩ := pV_ok h
  obtain ⟨q1, q2, q3⟩ := (shift_ahead hX).ahead (skip_ahead hX hn) 7
  rw [h2] at q1 q2 q3
  simp only at q1 q2 q3
  refine pV_mk hs ?_ h3
  have q4 := q3 trivial
  generalize rdV X (7 + 1) 0 = r at q1 q2 q4 ⊢
  obtain ⟨a, b, c⟩ := r
  simp only at q1 q2 q4
  rw [q1, q2, q4]
theorem pV_behind {s T : ByteArray} {v : V} {z : Nat} {l : List UInt8} (h : pV s 0 = (v, 0, z)) (hk : v.k ≠ 2) (hT : T.data.toList = s.data.toList.take z ++ 32 :: l) (hs : T.size ≤ 60000) : pV T 0 = (v, 0, z) := by
  obtain ⟨_, h2, h3⟩ := pV_ok h
  have hz : z ≤ s.size := by
    have := (rdV_fits s 8 0 (Nat.zero_le _) (by rw [h2])).2
    rw [h2] at this; exact this
  have hl : (s.data.toList.take z).length = z := by rw [List.length_take]; simp; omega
  have hU : Upto z s T := ⟨hz, fun i hi => by rw [hT, List.getElem?_append_left (by omega), List.getElem?_take, if_pos hi], by rw [hT, List.getElem?_append_right (by omega), hl, Nat.sub_self]; rfl⟩
  have e := rdV_loc hU 8 0 (Nat.zero_le _) (by rw [h2]) (by rw [h2]; exact Nat.le_refl _) (fun q => by rw [h2] at q; exact absurd q hk)
  exact pV_mk hs (e.trans h2) h3
/-- The closed fact. -/
def bkS : ByteArray := ⟨#[37, 120, 10, 55, 32, 56]⟩
theorem bk_fact : rdV bkS 8 0 = (V0 2 7000 eB, 0, 4) := by kernel_rfl
theorem bk_pv : pV bkS 0 = (V0 2 7000 eB, 0, 4) := by
  refine pV_mk (by decide) bk_fact (fault_none (by rw [cnt_eq, dep_eq]; simp [V0, cntL, cntF, depL, depF]) ?_)
  rw [shp_eq]
  exact ⟨.inr (.inr (.inl ⟨rfl, rfl, rfl, rfl, rfl⟩)), by rw [shpL_iff]; simp [V0], by rw [shpF_iff]; simp [V0]⟩
theorem valueOk (m : Int) (x : ByteArray) (v : V) (z : Nat) (w : World) (hG : Gr m w) (hx : x.size ≤ maxLen) (h : pV x 0 = (v, 0, z)) :
    Calls Tryz.prog 7 #[.string x, .int .i64 0] w fun e w' => ∃ (al af : Option Addr) (l1 cl l2 cf : Nat), e = .returned (.tuple #[.agg #[.int .i64 v.k, .int .i64 v.n, .string v.s, .slice al l1 cl, .slice af l2 cf], .int .i64 z, .nilIface]) ∧ Below w.heap.size w w' ∧
      Hid (RepN 9 w' v [.int .i64 v.k, .int .i64 v.n, .string v.s, .slice al l1 cl, .slice af l2 cf]) := by
  have q := pValue m x 0 w hx hG
  rw [h] at q
  refine q.mono ?_
  rintro e w' ⟨k, n, t, a1, a2, l1, c1, l2, c2, rfl, hb, HR⟩
  obtain ⟨al, af, cl, cf, he, _⟩ := HR.out
  have he' := he
  simp only [List.cons.injEq, Value.int.injEq, Value.string.injEq, true_and] at he'
  obtain ⟨rfl, rfl, rfl, _⟩ := he'
  exact ⟨a1, a2, l1, c1, l2, c2, rfl, hb, HR⟩
theorem valueBad (m : Int) (x : ByteArray) (w : World) (hG : Gr m w) (hx : x.size ≤ maxLen) (h : (pV x 0).2.1 ≠ 0) :
    Calls Tryz.prog 7 #[.string x, .int .i64 0] w fun e w' => ∃ (k n : Int) (t : ByteArray) (al af : Option Addr) (l1 cl l2 cf z : Nat) (e1 : Int), e = .returned (.tuple #[.agg #[.int .i64 k, .int .i64 n, .string t, .slice al l1 cl, .slice af l2 cf], .int .i64 z, .iface 44 (.int .i64 e1)]) ∧ Below w.heap.size w w' := by
  refine (pValue m x 0 w hx hG).mono ?_
  rintro e w' ⟨k, n, t, a1, a2, l1, c1, l2, c2, rfl, hb, _⟩
  exact ⟨k, n, t, a1, a2, l1, c1, l2, c2, _, _, by rw [errN_pos h]; rfl, hb⟩
theorem valikeSelf {d : Nat} (x : V) (cs ds : List Value) (w : World) (h1 : RepN d w x cs) (h2 : RepN d w x ds) (hc : x.cnt ≤ 1048576) :
    Calls Tryz.prog 21 #[.agg cs.toArray, .agg ds.toArray] w fun e w' => e = .returned (.bool true) ∧ Below w.heap.size w w' := by
  refine (vAlike_says x x cs ds h1 h2 hc).mono ?_
  rintro e w' ⟨⟨rfl, _⟩ | ⟨rfl, hn⟩, hb⟩
  · exact ⟨rfl, hb⟩
  · exact absurd rfl hn
theorem addS {a b c : ByteArray} (ha : a.size ≤ 1000000) (hb : b.size ≤ 1000000) (hc : c.data.toList = a.data.toList ++ b.data.toList) (w : World) : (Op.stringOp .add a b).run Tryz.prog w = .ok (.string c) w := by
  have q := add_big (x := a.data.toList) (y := b.data.toList) (z := c.data.toList) (by simpa using ha) (by simpa using hb) hc w
  simpa using q
end Go.Proofs.YtddoigjjgcefkaaGreatDoor

/-
  The document's own text of a name.
-/
namespace Go.Proofs.YtddoigjjgcefkaaGreatDoor
open Go.RowKit
set_option maxRecDepth 100000

/-- Signs that stand in a name's text as digits. -/
def hardN (c : UInt8) : Bool := c == 40 || c == 41 || c == 60 || c == 62 || c == 91 || c == 93 || c == 123 || c == 125 || c == 47 || c == 37 || c == 35
/-- A byte in a name's text. -/
def escN (c : UInt8) : List UInt8 := if 32 < c.toNat ∧ c.toNat < 127 ∧ hardN c = false then [c] else [35, hexD (c.toNat / 16), hexD (c.toNat % 16)]
def nameT (s : List UInt8) : List UInt8 := 47 :: s.flatMap escN
theorem escN_len (c : UInt8) : (escN c).length ≤ 3 := by
  unfold escN; split <;> simp
theorem flatN_len (l : List UInt8) : (l.flatMap escN).length ≤ 3 * l.length := by
  induction l with
  | nil => simp
  | cons c l ih => have := escN_len c; rw [List.flatMap_cons, List.length_append, List.length_cons]; omega

theorem conv_newd {W : World} {xs : List UInt8} {cells : Array Value} {n c : Nat} {t : TypeId} (hc : cells = (xs.map byteV).toArray) (hn : xs.length = n) :
    (convert 56 9 (.slice (some ⟨W.heap.size, 0, none⟩) n c)).run Tryz.prog (W.alloc (.cells cells t)).drew = .ok (.string ⟨xs.toArray⟩) (W.alloc (.cells cells t)).drew := by
  subst hc
  refine conv_row hn fun k hk => ?_
  rw [Lib.add_plain]
  show (W.alloc _).cell? _ = _
  rw [World.cell?_alloc_new]
  simp [hk, byteV]
theorem hexD_tbl (a : Nat) (h : a < 16) : (⟨#[48, 49, 50, 51, 52, 53, 54, 55, 56, 57, 65, 66, 67, 68, 69, 70]⟩ : ByteArray)[a]'h = hexD a := by
  have : ∀ x : Fin 16, (⟨#[48, 49, 50, 51, 52, 53, 54, 55, 56, 57, 65, 66, 67, 68, 69, 70]⟩ : ByteArray)[x.1]'x.2 = hexD x.1 := by decide
  exact this ⟨a, h⟩
theorem u8_beq (c v : UInt8) : ((c.toNat : Int) == (v.toNat : Int)) = (c == v) := by
  rw [Bool.eq_iff_iff, beq_iff_eq, beq_iff_eq]
  exact ⟨fun h => UInt8.toNat_inj.1 (by omega), fun h => by rw [h]⟩
theorem hard_int (c : UInt8) : (((c.toNat : Int) == 40) || ((c.toNat : Int) == 41) || ((c.toNat : Int) == 60) || ((c.toNat : Int) == 62) || ((c.toNat : Int) == 91) || ((c.toNat : Int) == 93) || ((c.toNat : Int) == 123) || ((c.toNat : Int) == 125) || ((c.toNat : Int) == 47) || ((c.toNat : Int) == 37) || ((c.toNat : Int) == 35)) = hardN c := by
  unfold hardN
  rw [← u8_beq c 40, ← u8_beq c 41, ← u8_beq c 60, ← u8_beq c 62, ← u8_beq c 91, ← u8_beq c 93, ← u8_beq c 123, ← u8_beq c 125, ← u8_beq c 47, ← u8_beq c 37, ← u8_beq c 35]
  rfl
end Go.Proofs.YtddoigjjgcefkaaGreatDoor

/-
  What value.Text makes of strings and names, read again. Plain: no program in it.
-/
namespace Go.Proofs.YtddoigjjgcefkaaGreatDoor
open Go.RowKit
set_option maxRecDepth 100000

theorem u8_all {P : UInt8 → Prop} (h : ∀ k : Fin 256, P (UInt8.ofNat k.val)) (c : UInt8) : P c := by
  have q := h ⟨c.toNat, c.toNat_lt⟩
  simpa using q
theorem oct3 (c : UInt8) : isOct (UInt8.ofNat (48 + c.toNat / 64)) = true ∧ isOct (UInt8.ofNat (48 + c.toNat / 8 % 8)) = true ∧ isOct (UInt8.ofNat (48 + c.toNat % 8)) = true ∧
    UInt8.ofNat ((8 * (8 * (8 * 0 + ((UInt8.ofNat (48 + c.toNat / 64)).toNat - 48)) + ((UInt8.ofNat (48 + c.toNat / 8 % 8)).toNat - 48)) + ((UInt8.ofNat (48 + c.toNat % 8)).toNat - 48)) % 256) = c := by
  revert c
  exact u8_all (by decide +kernel)
theorem escL_oct (c : UInt8) (r : List UInt8) : escL (UInt8.ofNat (48 + c.toNat / 64) :: UInt8.ofNat (48 + c.toNat / 8 % 8) :: UInt8.ofNat (48 + c.toNat % 8) :: r) = some ([c], 3) := by
  obtain ⟨h1, h2, h3, h4⟩ := oct3 c
  unfold escL
  dsimp only
  rw [if_pos h1]
  have e1 : octN 3 (UInt8.ofNat (48 + c.toNat / 64) :: UInt8.ofNat (48 + c.toNat / 8 % 8) :: UInt8.ofNat (48 + c.toNat % 8) :: r) = 3 := by
    simp only [octN, h1, h2, h3, if_true]
  have e2 : octV 3 (UInt8.ofNat (48 + c.toNat / 64) :: UInt8.ofNat (48 + c.toNat / 8 % 8) :: UInt8.ofNat (48 + c.toNat % 8) :: r) 0 = 8 * (8 * (8 * 0 + ((UInt8.ofNat (48 + c.toNat / 64)).toNat - 48)) + ((UInt8.ofNat (48 + c.toNat / 8 % 8)).toNat - 48)) + ((UInt8.ofNat (48 + c.toNat % 8)).toNat - 48) := by
    simp only [octV, h1, h2, h3, if_true]
  rw [e1, e2, h4]
/-- A string's text, read from behind its opening bracket. -/
theorem litT_back : ∀ (l r b : List UInt8) (k : Nat), litT (l.flatMap escS ++ 41 :: r) 1 b k = (0, b ++ l, k + (l.flatMap escS).length + 1)
  | [], r, b, k => by
    show litT (41 :: r) 1 b k = _
    rw [litT_cons]; simp
  | c :: l, r, b, k => by
    have ih := fun b' k' => litT_back l r b' k'
    rw [List.flatMap_cons, List.append_assoc]
    by_cases h1 : c = 40 ∨ c = 41 ∨ c = 92
    · rw [show escS c = [92, c] by unfold escS; rw [if_pos h1]]
      have e : escL (c :: (l.flatMap escS ++ 41 :: r)) = some ([c], 1) := by
        rcases h1 with rfl | rfl | rfl <;> rfl
      show litT (92 :: c :: (l.flatMap escS ++ 41 :: r)) 1 b k = _
      rw [litT_cons, if_neg (by decide), if_neg (by decide), if_pos (by decide), e]
      show litT (l.flatMap escS ++ 41 :: r) 1 (b ++ [c]) (k + 1 + 1) = _
      rw [ih]
      simp; omega
    · by_cases h2 : 32 ≤ c.toNat ∧ c.toNat < 127
      · rw [show escS c = [c] by unfold escS; rw [if_neg h1, if_pos h2]]
        simp only [not_or] at h1
        show litT (c :: (l.flatMap escS ++ 41 :: r)) 1 b k = _
        rw [litT_cons, if_neg (by simpa using h1.2.1), if_neg (by simpa using h1.1), if_neg (by simpa using h1.2.2), ih]
        simp; omega
      · rw [show escS c = [92, UInt8.ofNat (48 + c.toNat / 64), UInt8.ofNat (48 + c.toNat / 8 % 8), UInt8.ofNat (48 + c.toNat % 8)] by unfold escS; rw [if_neg h1, if_neg h2]]
        show litT (92 :: UInt8.ofNat (48 + c.toNat / 64) :: UInt8.ofNat (48 + c.toNat / 8 % 8) :: UInt8.ofNat (48 + c.toNat % 8) :: (l.flatMap escS ++ 41 :: r)) 1 b k = _
        rw [litT_cons, if_neg (by decide), if_neg (by decide), if_pos (by decide), escL_oct]
        show litT (l.flatMap escS ++ 41 :: r) 1 (b ++ [c]) (k + 1 + 3) = _
        rw [ih]
        simp; omega
theorem hex2 (c : UInt8) : ¬ (hexV (hexD (c.toNat / 16)) < 0 ∨ hexV (hexD (c.toNat % 16)) < 0) ∧ UInt8.ofNat (16 * (hexV (hexD (c.toNat / 16))).toNat + (hexV (hexD (c.toNat % 16))).toNat) = c := by
  revert c
  exact u8_all (by decide +kernel)
/-- A name's text, read. -/
theorem nameL_back : ∀ l : List UInt8, nameL (l.flatMap escN) = some l
  | [] => nameL_nil
  | c :: l => by
    have ih := nameL_back l
    rw [List.flatMap_cons]
    by_cases h : 32 < c.toNat ∧ c.toNat < 127 ∧ hardN c = false
    · rw [show escN c = [c] by unfold escN; rw [if_pos h]]
      have h35 : (c == 35) = false := by
        have q := h.2.2
        unfold hardN at q
        simp only [Bool.or_eq_false_iff] at q
        exact q.2
      show nameL (c :: l.flatMap escN) = _
      rw [nameL_plain h35, ih]; rfl
    · rw [show escN c = [35, hexD (c.toNat / 16), hexD (c.toNat % 16)] by unfold escN; rw [if_neg h]]
      obtain ⟨h1, h2⟩ := hex2 c
      show nameL (35 :: hexD (c.toNat / 16) :: hexD (c.toNat % 16) :: l.flatMap escN) = _
      rw [nameL_pair, if_neg h1, ih, h2]; rfl
end Go.Proofs.YtddoigjjgcefkaaGreatDoor
