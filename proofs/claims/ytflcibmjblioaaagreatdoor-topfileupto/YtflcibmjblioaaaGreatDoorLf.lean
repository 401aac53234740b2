/-
  Joined: Ka, Kc, Lf.
-/
import Derived.Test.YtflcibmjblioaaaGreatDoorRc
import Derived.Test.YtflcibmjblioaaaGreatDoorPa
import Derived.Test.YtflcibmjblioaaaGreatDoorShelf
import Derived.Shelf.Strings.SlTrimAscii
import Derived.Test.YtflcibmjblioaaaGreatDoorLe
import Derived.Test.YtflcibmjblioaaaGreatDoorLc

/-
  Reading a file: its words, its numbers.
-/
namespace Go.Proofs.YtflcibmjblioaaaGreatDoor
open Go.RowKit
set_option maxRecDepth 100000

/-- A reader's block. -/
abbrev RdF (w : World) (P : Nat) (s : ByteArray) (a : Nat) : Prop := At w P 56 #[.string s, .int .i64 (a : Int)]
theorem place_f {s : ByteArray} {k : Nat} (h : k ≤ s.size) : place s (k : Int) = k := by unfold place; simp; omega
theorem skip_f {s : ByteArray} {a p : Nat} (w : World) (ha : a ≤ s.size) (hs : s.size ≤ 100000) (h : skipP s a = p) : Calls Tryz.prog 47 #[.string s, .int .i64 (a : Int)] w fun e w' => e = .returned (.int .i64 (p : Int)) ∧ w' = w := by
  have q := pSkip s a w (by unfold maxLen; omega)
  rw [place_f ha, h] at q; exact q
theorem word_f {s tok : ByteArray} {p : Nat} (w : World) (hp : p ≤ s.size) (hs : s.size ≤ 100000) (h : wordP s p = tok) : Calls Tryz.prog 48 #[.string s, .int .i64 (p : Int)] w fun e w' => e = .returned (.string tok) ∧ w' = w := by
  have q := pWord s p w (by unfold maxLen; omega)
  rw [place_f hp, h] at q; exact q
theorem RdF.set {w : World} {P : Nat} {s : ByteArray} {a : Nat} (h : RdF w P s a) (b : Nat) : RdF (w.setCell ⟨P, 1, none⟩ (.int .i64 (b : Int))) P s b := by
  unfold RdF At
  rw [setCell_eq_setRow w P 1 _ _ (0, 0) _ h]
  exact setRow_heap w P _ _ _ _ h
set_option maxHeartbeats 1000000 in
theorem fword (s tok : ByteArray) (a p : Nat) (P : Nat) (w : World) (hs : s.size ≤ 100000) (ha : a ≤ s.size) (h1 : skipP s a = p) (hp : p ≤ s.size) (hw : wordP s p = tok) (ht : p + tok.size ≤ s.size) (hA : RdF w P s a) :
    Calls Tryz.prog 21 #[.pointer (some ⟨P, 0, none⟩)] w fun e w' => e = .returned (.string tok) ∧ RdF w' P s (p + tok.size) ∧ KeepBut P w w' := by
  have c0 := hA.cell 0
  have c1 := hA.cell 1
  have f1 := hA.free 1
  have z0 := hA.lt
  simp at c0 c1
  have HS := hid (fun W => skip_f (s := s) (a := a) (p := p) W ha hs h1)
  have HW := hid (fun W => word_f (s := s) (tok := tok) (p := p) W hp hs hw)
  have hpt : (p : Int) + tok.size ≤ 100000 := by omega
  have HA := hid hA
  clear hA h1 hw
  go_enter Tryz.func21, Tryz.ntmps21
  go_wp2_with fail
  go_region_with (go_at_call 47; refine (HS.out _).mono ?_; rintro e w1 ⟨rfl, rfl⟩)
  all_goals
    go_wp2_with fail
    have hA2 : RdF (w.setCell ⟨P, 1, none⟩ (.int .i64 (p : Int))).drew P s p := (HA.out.set p).drew
    have hK2 : KeepBut P w (w.setCell ⟨P, 1, none⟩ (.int .i64 (p : Int))).drew := ((KeepBut.refl P w).set 1 _).drew
    generalize (w.setCell ⟨P, 1, none⟩ (.int .i64 (p : Int))).drew = w2 at *
    clear c0 c1 f1 z0 HA
    have c0 := hA2.cell 0
    have c1 := hA2.cell 1
    have f1 := hA2.free 1
    have z0 := hA2.lt
    simp at c0 c1
    go_region_with (go_at_call 48; refine (HW.out _).mono ?_; rintro e w3 ⟨rfl, rfl⟩)
    all_goals
      go_wp2_with fail
      go_ret
      refine ⟨rfl, ?_, (hK2.drew).set 1 _⟩
      have q : RdF (w2.setCell ⟨P, 1, none⟩ (.int .i64 ((p + tok.size : Nat) : Int))).drew P s (p + tok.size) := At.drew (RdF.set hA2 (p + tok.size))
      simpa using q
theorem mayBe_says (n : Int) (w : World) : Calls Tryz.prog 15 #[.int .i64 n] w fun e w' => e = .returned (.bool (decide (1 ≤ n ∧ n ≤ 60))) ∧ w' = w := by
  by_cases h1 : 1 ≤ n
  · by_cases h2 : n ≤ 60
    · rw [decide_eq_true (And.intro h1 h2)]
      go_enter Tryz.func15, Tryz.ntmps15
      go_wp2
      go_ret
      exact ⟨rfl, rfl⟩
    · rw [decide_eq_false (fun q : 1 ≤ n ∧ n ≤ 60 => h2 q.2)]
      go_enter Tryz.func15, Tryz.ntmps15
      go_wp2
      go_ret
      exact ⟨rfl, rfl⟩
  · rw [decide_eq_false (fun q : 1 ≤ n ∧ n ≤ 60 => h1 q.1)]
    go_enter Tryz.func15, Tryz.ntmps15
    go_wp2
    go_ret
    exact ⟨rfl, rfl⟩
end Go.Proofs.YtflcibmjblioaaaGreatDoor

/-
  Reading a file: numbers that words are.
-/
namespace Go.Proofs.YtflcibmjblioaaaGreatDoor
open Go.RowKit
set_option maxRecDepth 100000

def digS : List UInt8 := [48, 49, 50, 51, 52, 53, 54, 55, 56, 57]
theorem trim_digits (w : World) (t : ByteArray) (hs : t.size ≤ 100000) : Calls Tryz.prog 45 #[.string t, .string ⟨#[48, 49, 50, 51, 52, 53, 54, 55, 56, 57]⟩] w fun e w' => e = .returned (.string ⟨(Lib.trimS t.data.toList digS).toArray⟩) ∧ Below w.heap.size w w' :=
  Any.strings_Trim_laid Tryz.lays160 (by kernel_rfl) t ⟨#[48, 49, 50, 51, 52, 53, 54, 55, 56, 57]⟩ w (by omega) (by decide) (by
    intro j b hj
    have : b ∈ digS := List.mem_of_getElem? hj
    have q : ∀ b ∈ digS, b.toNat < 128 := by decide
    exact q b this)
theorem dw_all {p : UInt8 → Bool} : ∀ {l : List UInt8}, (∀ x ∈ l, p x = true) → l.dropWhile p = []
  | [], _ => rfl
  | a :: l, h => by rw [List.dropWhile_cons_of_pos (h a (by simp))]; exact dw_all (fun x hx => h x (by simp [hx]))
theorem trimS_all {l cs : List UInt8} (h : ∀ x ∈ l, cs.contains x = true) : Lib.trimS l cs = [] := by
  unfold Lib.trimS Lib.trimLeftS Lib.trimRightS
  rw [dw_all (l := l.reverse) (fun x hx => h x (by simpa using hx))]
  rfl
set_option maxHeartbeats 1000000 in
theorem fnumber_ok (t : ByteArray) (v : Int) (w : World) (h1 : 0 < t.size) (h2 : t.size ≤ 10) (hd : ∀ x ∈ t.data.toList, digS.contains x = true) (hv : Lib.atoiAll t.data.toList = .ok v) :
    Calls Tryz.prog 20 #[.string t] w fun e w' => e = .returned (.tuple #[.int .i64 v, .nilIface]) ∧ Below w.heap.size w w' := by
  have hie : t.toList.isEmpty = false := by cases hh : t.toList with
    | nil =>
      rw [ByteArray.toList_eq] at hh
      have q : t.size = t.data.toList.length := by simp
      rw [hh] at q
      simp only [List.length_nil] at q
      exfalso; omega
    | cons a l => rfl
  have h2' : ¬ (10 : Int) < t.size := by omega
  have htr := trim_digits w t (by omega)
  rw [trimS_all hd] at htr
  have HAT := hid (fun W => Tryz.strconv_Atoi_ok t (by omega) v hv W)
  clear hd hv
  go_enter Tryz.func20, Tryz.ntmps20
  go_wp2_with (go_at_call 45; fail)
  go_at_call 45
  refine htr.mono ?_
  rintro e w1 ⟨rfl, hb1⟩
  go_wp2_with (go_at_call 46; fail)
  go_at_call 46
  refine (HAT.out _).mono ?_
  rintro e w2 ⟨rfl, hb2⟩
  go_wp2_with fail
  go_ret2
  refine ⟨rfl, ?_⟩
  rcases hb2 with rfl | ⟨x, rfl⟩
  · exact hb1
  · exact hb1.trans ((Lib.bytesWorld_below _ _ _).mono hb1.size)
end Go.Proofs.YtflcibmjblioaaaGreatDoor

/-
  Entries and spans of a table are read (file.readEntry, readSpan).
-/
namespace Go.Proofs.YtflcibmjblioaaaGreatDoor
open Go.RowKit Go.Lib Go.Maps
set_option maxRecDepth 1000000

/-- All that was there is as it was, but for blocks of a kind. -/
structure KeepS (S : Nat → Prop) (w w' : World) : Prop where
  os : w'.os = w.os
  tape : w'.tape = w.tape
  output : w'.output = w.output
  size : w.heap.size ≤ w'.heap.size
  block : ∀ k, k < w.heap.size → ¬ S k → w'.heap[k]? = w.heap[k]?
theorem KeepS.refl (S : Nat → Prop) (w : World) : KeepS S w w := ⟨rfl, rfl, rfl, Nat.le_refl _, fun _ _ _ => rfl⟩
theorem KeepS.trans {S : Nat → Prop} {a b c : World} (h : KeepS S a b) (k : KeepS S b c) : KeepS S a c :=
  ⟨k.os.trans h.os, k.tape.trans h.tape, k.output.trans h.output, Nat.le_trans h.size k.size, fun i hi hp => (k.block i (Nat.lt_of_lt_of_le hi h.size) hp).trans (h.block i hi hp)⟩
theorem KeepS.of {S : Nat → Prop} {w w' : World} (h : Below w.heap.size w w') : KeepS S w w' := ⟨h.os, h.tape, h.output, h.size, fun k hk _ => h.block k hk⟩
theorem KeepS.but {S : Nat → Prop} {P : Nat} {w w' : World} (h : KeepBut P w w') (hP : S P) : KeepS S w w' := ⟨h.os, h.tape, h.output, h.size, fun k hk hs => h.block k hk (fun e => hs (e ▸ hP))⟩
theorem KeepS.grown {S : Nat → Prop} {b : Nat} {w w' : World} (h : w.grownBy w' (some b)) (hb : S b) : KeepS S w w' := ⟨h.os, h.tape, h.output, h.size, fun k hk hs => h.block k hk (fun e => hs (by injection e with e; exact e ▸ hb))⟩
theorem KeepS.mono {S S' : Nat → Prop} {w w' : World} (h : KeepS S w w') (hS : ∀ k, S k → S' k) : KeepS S' w w' := ⟨h.os, h.tape, h.output, h.size, fun k hk hs => h.block k hk (fun q => hs (hS k q))⟩
theorem KeepS.at_ {S : Nat → Prop} {w w' : World} {b : Nat} {t : TypeId} {cs : Array Value} (h : KeepS S w w') (ha : At w b t cs) (hb : ¬ S b) : At w' b t cs := (h.block b ha.lt hb).trans ha
theorem KeepS.below {S : Nat → Prop} {w0 w w' : World} (h : KeepS S w w') (hb : Below w0.heap.size w0 w) (hS : ∀ k, S k → w0.heap.size ≤ k) : Below w0.heap.size w0 w' :=
  ⟨h.os.trans hb.os, h.tape.trans hb.tape, h.output.trans hb.output, Nat.le_trans hb.size h.size, fun k hk => (h.block k (Nat.lt_of_lt_of_le hk hb.size) (fun q => by have := hS k q; omega)).trans (hb.block k hk)⟩
theorem MapZ.keepS {S : Nat → Prop} {w w' : World} {b n : Nat} {m : Int → Option Int} (h : MapZ w b n m) (hk : KeepS S w w') (hb : ¬ S b) : MapZ w' b n m := by
  obtain ⟨D, h1, h2⟩ := h
  have hl := h1.lt
  obtain ⟨es, clock, hh, F, hs, hD⟩ := h1
  exact ⟨D, ⟨es, clock, (hk.block b hl hb).trans hh, F, hs, hD⟩, h2⟩
/-- A word is taken. -/
theorem fwordT {s : ByteArray} {a b : Nat} {tok : List UInt8} (h : TokF s a tok b) (P : Nat) (w : World) (hs : s.size ≤ 100000) (hA : RdF w P s a) :
    Calls Tryz.prog 21 #[.pointer (some ⟨P, 0, none⟩)] w fun e w' => e = .returned (.string ⟨tok.toArray⟩) ∧ RdF w' P s b ∧ KeepBut P w w' := by
  obtain ⟨p, h1, h2, h3, h4, h5, h6⟩ := h
  have e : (⟨tok.toArray⟩ : ByteArray).size = tok.length := by simp [ByteArray.size]
  refine (fword s ⟨tok.toArray⟩ a p P w hs h6 h1 h2 h3 (by rw [e]; omega) hA).mono ?_
  rintro e' w' ⟨r1, r2, r3⟩
  rw [e, h4] at r2
  exact ⟨r1, r2, r3⟩
theorem digS_of {c : UInt8} (h : isD c = true) : digS.contains c = true := by
  have q : ∀ n : Fin 256, isD (UInt8.ofNat n.val) = true → digS.contains (UInt8.ofNat n.val) = true := by decide +kernel
  have e : UInt8.ofNat c.toNat = c := by simp
  have := q ⟨c.toNat, c.toNat_lt⟩
  rw [e] at this
  exact this h
/-- Digits are a number. -/
theorem fnumberD {l : List UInt8} (w : World) (hd : allD l = true) (hne : l ≠ []) (hl : l.length ≤ 10) (hv : valD 0 l ≤ 100000000000000) :
    Calls Tryz.prog 20 #[.string ⟨l.toArray⟩] w fun e w' => e = .returned (.tuple #[.int .i64 (valD 0 l : Int), .nilIface]) ∧ Below w.heap.size w w' := by
  have e : (⟨l.toArray⟩ : ByteArray).size = l.length := by simp [ByteArray.size]
  have h0 : 0 < l.length := List.length_pos_iff.2 hne
  exact fnumber_ok ⟨l.toArray⟩ (valD 0 l : Int) w (by omega) (by omega) (fun x hx => digS_of ((List.all_eq_true.1 hd) x (by simpa using hx))) (by simpa using atoi_digits hne hd hv)
/-- What is told first counts. -/
def tellZ (m : Int → Option Int) (k : Int) (p : Nat) : Int → Option Int := if m k = none ∧ 1 ≤ k ∧ k ≤ 60 then putZ m k (p : Int) else m
def EntRes (P mb : Nat) (s : ByteArray) (b n : Nat) (m : Int → Option Int) (w w' : World) : Prop := (∃ n', n' ≤ n ∧ MapZ w' mb n' m) ∧ RdF w' P s b ∧ KeepS (fun k => k = P ∨ k = mb) w w'
set_option maxHeartbeats 2000000 in
theorem readEntry_says (F P mb n : Nat) (s : ByteArray) (a p b : Nat) (k tb : Int) (c0 c1 c2 c3 c4 : Value) (m : Int → Option Int) (w : World) (hs : s.size ≤ 100000) (hp : p < 100000) (hk : 0 ≤ k ∧ k ≤ 1000000) (hn : n < 100000)
    (hE : RdEnt s a p b) (hF : FileAt w F s (.map (some mb)) tb c0 c1 c2 c3 c4) (hM : MapZ w mb n m) (hR : RdF w P s a) (hFP : F ≠ P) (_hFm : F ≠ mb) (hPm : P ≠ mb) :
    Calls Tryz.prog 123 #[.pointer (some ⟨F, 0, none⟩), .pointer (some ⟨P, 0, none⟩), .int .i64 k] w fun e w' => e = .returned .nilIface ∧ EntRes P mb s b (n + 1) (tellZ m k p) w w' := by
  obtain ⟨b1, b2, t1, t2, t3⟩ := hE
  have T1 := hid t1
  have T2 := hid t2
  have T3 := hid t3
  have HF := hid hF
  have HM := hid hM
  have HR := hid hR
  have hk2 : -1000000000000 ≤ k ∧ k ≤ 1000000000000 := by omega
  have hp2 : -1000000000000 ≤ (p : Int) ∧ (p : Int) ≤ 1000000000000 := by omega
  clear t1 t2 t3 hF hM hR
  go_enter Tryz.func123, Tryz.ntmps123
  go_wp2_with (go_at_call 21; fail)
  go_at_call 21
  refine (fwordT T1.out P w hs HR.out).mono ?_
  rintro e w1 ⟨rfl, hR1, hK1⟩
  go_wp2_with (go_at_call 20; fail)
  go_at_call 20
  refine (fnumberD w1 (pad10_all p) (pad10_ne p) (by rw [pad10_len hp]; exact Nat.le_refl _) (by rw [pad10_val]; omega)).mono ?_
  rintro e w2 ⟨rfl, hb2⟩
  rw [pad10_val]
  go_wp2_with (go_at_call 21; fail)
  go_at_call 21
  refine (fwordT T2.out P w2 hs (hR1.later hb2)).mono ?_
  rintro e w3 ⟨rfl, hR3, hK3⟩
  go_wp2_with (go_at_call 20; fail)
  go_at_call 20
  refine (fnumberD w3 (l := nulW) (by decide) (by decide) (by decide) (by decide)).mono ?_
  rintro e w4 ⟨rfl, hb4⟩
  go_wp2_with (go_at_call 21; fail)
  go_at_call 21
  refine (fwordT T3.out P w4 hs (hR3.later hb4)).mono ?_
  rintro e w5 ⟨rfl, hR5, hK5⟩
  have hK : KeepBut P w w5 := (((hK1.then hb2).trans hK3).then hb4).trans hK5
  have HK := hid hK
  have HR5 := hid hR5
  have hF5 := hK.at HF.out hFP
  have hM5 := HM.out.but hK (fun e => hPm e.symm)
  have f1 : w5.cell? ⟨F, 1, none⟩ = some (.map (some mb)) := by simpa using hF5.cell 1
  have hl := hM5.look hk2
  have HM5 := hid hM5
  have hcc := mayBe_says k w5
  clear hK1 hb2 hR1 hK3 hR3 hb4 hK5 hR5 hK hF5 hM5 HM HF HR T1 T2 T3
  cases e : m k with
  | some c =>
    have HT := hid (show tellZ m k p = m by unfold tellZ; rw [if_neg (by rw [e]; simp)])
    rw [e] at hl
    simp only [Option.getD_some, Option.isSome_some] at hl
    go_wp2_with fail
    go_ret
    exact ⟨rfl, by rw [HT.out]; exact ⟨⟨n, by omega, HM5.out⟩, HR5.out, .but HK.out (.inl rfl)⟩⟩
  | none =>
    rw [e] at hl
    simp only [Option.getD_none, Option.isSome_none] at hl
    by_cases hr : 1 ≤ k ∧ k ≤ 60
    · have HT := hid (show tellZ m k p = putZ m k (p : Int) by unfold tellZ; rw [if_pos ⟨e, hr⟩])
      rw [decide_eq_true hr] at hcc
      obtain ⟨w6, hu, hM6, hg6⟩ := HM5.out.put (c := (p : Int)) hk2 hp2 (by omega)
      have H6 := hid (And.intro hM6 hg6)
      clear hM6 hg6
      go_wp2_with (go_at_call 15; refine hcc.mono ?_; rintro e w' ⟨rfl, rfl⟩)
      go_ret
      have hg := H6.out.2
      have hKS := KeepS.grown (S := fun k => k = P ∨ k = mb) hg (.inr rfl)
      refine ⟨rfl, by rw [HT.out]; exact ⟨⟨n + 1, Nat.le_refl _, H6.out.1⟩, (hg.block P HR5.out.lt (fun z => by injection z with z; exact hPm z)).trans HR5.out, (KeepS.but HK.out (.inl rfl)).trans hKS⟩⟩
    · have HT := hid (show tellZ m k p = m by unfold tellZ; rw [if_neg (fun q => hr q.2)])
      rw [decide_eq_false hr] at hcc
      go_wp2_with (go_at_call 15; refine hcc.mono ?_; rintro e w' ⟨rfl, rfl⟩)
      go_ret
      exact ⟨rfl, by rw [HT.out]; exact ⟨⟨n, by omega, HM5.out⟩, HR5.out, .but HK.out (.inl rfl)⟩⟩
/-- What a span tells. -/
def tellL (m : Int → Option Int) : Int → List Nat → (Int → Option Int)
  | _, [] => m
  | k, p :: ps => tellL (tellZ m k p) (k + 1) ps
theorem tellL_snoc : ∀ (ps : List Nat) (m : Int → Option Int) (k : Int) (p : Nat), tellL m k (ps ++ [p]) = tellZ (tellL m k ps) (k + ps.length) p
  | [], m, k, p => by simp [tellL]
  | q :: ps, m, k, p => by
    rw [List.cons_append, tellL, tellL_snoc ps, tellL]
    congr 1
    simp only [List.length_cons]
    omega
set_option maxHeartbeats 2000000 in
theorem readSpan_says (F P mb n : Nat) (s : ByteArray) (a b1 b : Nat) (x : Nat × List Nat) (tb : Int) (c0 c1 c2 c3 c4 : Value) (m : Int → Option Int) (w : World) (hs : s.size ≤ 100000) (hx : x.1 < 100) (hxl : x.2.length < 100) (hp : ∀ p ∈ x.2, p < 100000) (hn : n < 50000)
    (h1 : TokF s a (Lib.decDigits x.2.length) b1) (h2 : RdEnts s b1 x.2 b) (hF : FileAt w F s (.map (some mb)) tb c0 c1 c2 c3 c4) (hM : MapZ w mb n m) (hR : RdF w P s a) (hFP : F ≠ P) (hFm : F ≠ mb) (hPm : P ≠ mb) :
    Calls Tryz.prog 80 #[.pointer (some ⟨F, 0, none⟩), .pointer (some ⟨P, 0, none⟩), .string ⟨(Lib.decDigits x.1).toArray⟩] w fun e w' => e = .returned .nilIface ∧ EntRes P mb s b (n + 100) (tellL m (x.1 : Int) x.2) w w' := by
  obtain ⟨f, ps⟩ := x
  simp only at hx hxl hp h1 h2 ⊢
  have T1 := hid h1
  have H2 := hid h2
  have HF := hid hF
  have HM := hid hM
  have HR := hid hR
  have HPp := hid hp
  clear h1 h2 hF hM hR hp
  have hd1 := dec_len5 (show f < 100000 by omega)
  have hd2 := dec_len5 (show ps.length < 100000 by omega)
  go_enter Tryz.func80, Tryz.ntmps80
  go_wp2_with (go_at_call 20; fail)
  go_at_call 20
  refine (fnumberD w (dec_all f) (dec_ne f) (by omega) (by rw [dec_val]; omega)).mono ?_
  rintro e w1 ⟨rfl, hb1⟩
  rw [dec_val]
  go_wp2_with (go_at_call 21; fail)
  go_at_call 21
  refine (fwordT T1.out P w1 hs (HR.out.later hb1)).mono ?_
  rintro e w2 ⟨rfl, hR2, hK2⟩
  go_wp2_with (go_at_call 20; fail)
  go_at_call 20
  refine (fnumberD w2 (dec_all ps.length) (dec_ne ps.length) (by omega) (by rw [dec_val]; omega)).mono ?_
  rintro e w3 ⟨rfl, hb3⟩
  rw [dec_val]
  have hK : KeepS (fun k => k = P ∨ k = mb) w w3 := ((KeepS.of hb1).trans (.but hK2 (.inl rfl))).trans (.of hb3)
  have hMk : KeepBut P w w3 := ((KeepBut.of hb1).trans hK2).then hb3
  have HO := hid (show ∃ c, RdEnts s c (ps.drop 0) b ∧ EntRes P mb s c (n + 0) (tellL m (f : Int) (ps.take 0)) w w3 from ⟨b1, H2.out, ⟨n, Nat.le_refl _, HM.out.but hMk (fun e => hPm e.symm)⟩, hR2.later hb3, hK⟩)
  clear hb1 hR2 hK2 hb3 hK hMk T1 H2
  go_wp2_with fail
  go_loopw [30] (fun i wr => ∃ j : Nat, i = .int .i64 j ∧ j ≤ ps.length ∧ Hid (∃ c, RdEnts s c (ps.drop j) b ∧ EntRes P mb s c (n + j) (tellL m (f : Int) (ps.take j)) w wr)) (fun i _ => ps.length - (intOf i).toNat)
  case atStart => exact ⟨0, rfl, Nat.zero_le _, HO⟩
  case round =>
    obtain ⟨j, rfl, hj, HO2⟩ := hrel
    clear HO
    by_cases hjl : j < ps.length
    · have hjl' : (j : Int) < ps.length := by omega
      obtain ⟨c, hr, ⟨n', hn', hMz⟩, hRc, hKc⟩ := HO2.out
      rw [List.drop_eq_getElem_cons hjl] at hr
      obtain ⟨c', he, hr'⟩ := hr
      have HT := hid (show tellL m (f : Int) (ps.take (j + 1)) = tellZ (tellL m (f : Int) (ps.take j)) ((f : Int) + j) ps[j] by
        rw [List.take_succ_eq_append_getElem hjl, tellL_snoc, List.length_take, show min j ps.length = j by omega])
      have hF2 := hKc.at_ HF.out (by simp [hFP, hFm])
      have HX := hid (readEntry_says F P mb n' s c ps[j] c' ((f : Int) + j) tb c0 c1 c2 c3 c4 _ wr hs (HPp.out _ (List.getElem_mem hjl)) (by omega) (by omega) he hF2 hMz hRc hFP hFm hPm)
      have HKc := hid hKc
      have HRr := hid hr'
      clear hr' he hF2 hMz hRc hKc
      go_wp2_with (go_at_call 123; refine HX.out.mono ?_; rintro e w4 ⟨rfl, h4⟩; have H4 := hid h4; clear h4)
      go_roundw
      case rel =>
        obtain ⟨⟨n2, hn2, hm2⟩, hr2, hk2⟩ := H4.out
        refine ⟨j + 1, by go_num, by omega, hid ⟨c', HRr.out, ⟨n2, by omega, by rw [HT.out]; exact hm2⟩, hr2, HKc.out.trans hk2⟩⟩
      case measure => simp [intOf]; omega
    · have hjl' : ¬ (j : Int) < ps.length := by omega
      have e : j = ps.length := by omega
      subst e
      go_wp2_with fail
      go_ret
      obtain ⟨c, hr, ⟨n', hn', hMz⟩, hRc, hKc⟩ := HO2.out
      rw [List.drop_eq_nil_of_le (Nat.le_refl _)] at hr
      have hr : c = b := hr
      subst hr
      rw [List.take_length] at hMz
      exact ⟨rfl, ⟨n', by omega, hMz⟩, hRc, hKc⟩
end Go.Proofs.YtflcibmjblioaaaGreatDoor
