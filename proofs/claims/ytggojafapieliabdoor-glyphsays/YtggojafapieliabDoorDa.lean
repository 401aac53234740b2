/-
  Reading a program: its tokens.
-/
import Derived.Test.YtggojafapieliabDoorRc
import Derived.Test.YtggojafapieliabDoorKb
import Derived.Test.YtggojafapieliabDoorCc
namespace Go.Proofs.YtggojafapieliabDoor
open Go.RowKit
set_option maxRecDepth 100000

/-- A reader's block. -/
abbrev RdC (w : World) (P : Nat) (s : ByteArray) (a : Nat) (bt : Int) (sp : Value) : Prop := At w P 59 #[.string s, .int .i64 (a : Int), .int .i64 bt, sp]
theorem place_at {s : ByteArray} {k : Nat} (h : k ≤ s.size) : place s (k : Int) = k := by unfold place; simp; omega
theorem skip_at {s : ByteArray} {a p : Nat} (w : World) (ha : a ≤ s.size) (hs : s.size ≤ 100000) (h : skipP s a = p) : Calls Tryd.prog 64 #[.string s, .int .i64 (a : Int)] w fun e w' => e = .returned (.int .i64 (p : Int)) ∧ w' = w := by
  have q := pSkip s a w (by unfold maxLen; omega)
  rw [place_at ha, h] at q; exact q
theorem word_at0 (s : ByteArray) (w : World) (hs : s.size ≤ 100000) : Calls Tryd.prog 65 #[.string s, .int .i64 0] w fun e w' => e = .returned (.string (wordP s 0)) ∧ w' = w := by
  have q := pWord s 0 w (by unfold maxLen; omega)
  have e : place s 0 = 0 := by unfold place; simp
  rw [e] at q; exact q
/-- A reader's block that was moved on. -/
theorem RdC.set {w : World} {P : Nat} {s : ByteArray} {a : Nat} {bt : Int} {sp : Value} (h : RdC w P s a bt sp) (b : Nat) : RdC (w.setCell ⟨P, 1, none⟩ (.int .i64 (b : Int))) P s b bt sp := by
  unfold RdC At
  rw [setCell_eq_setRow w P 1 _ _ (0, 0) _ h]
  exact setRow_heap w P _ _ _ _ h
theorem At.drewN' {w : World} {b : Nat} {t : TypeId} {cs : Array Value} (h : At w b t cs) : ∀ n, At (w.drewN n) b t cs
  | 0 => h
  | n + 1 => (At.drewN' h n).drew
set_option maxHeartbeats 1000000 in
theorem token_word (s rest t : ByteArray) (a p n : Nat) (bt : Int) (sp : Value) (P : Nat) (w : World) (hs : s.size ≤ 50000) (ha : a ≤ s.size) (h1 : skipP s a = p) (hp : p < s.size) (hr : s.extract p s.size = rest) (hrs : rest.size = s.size - p) (h0 : 0 < rest.size)
    (hc : ¬ (rest[0].toNat : Int) = 60) (wd : ByteArray) (hwd : wordP rest 0 = wd) (hw : wd.size = n) (hn : 0 < n) (hnr : n ≤ rest.size) (ht : rest.extract 0 n = t) (hA : RdC w P s a bt sp) :
    Calls Tryd.prog 43 #[.pointer (some ⟨P, 0, none⟩)] w fun e w' => e = .returned (.tuple #[.string t, .nilIface]) ∧ RdC w' P s (p + n) bt sp ∧ KeepBut P w w' := by
  have c0 := hA.cell 0
  have c1 := hA.cell 1
  have f1 := hA.free 1
  have z0 := hA.lt
  simp at c0 c1
  have HS := hid (fun W => skip_at (s := s) (a := a) (p := p) W ha (by omega) h1)
  have HW := hid (fun W => word_at0 rest W (by omega))
  rw [hwd] at HW
  have hp0 : (0 : Int) ≤ (p : Int) := by omega
  have hp1 : (p : Int) ≤ s.size := by omega
  have hie : rest.toList.isEmpty = false := by cases hh : rest.toList with
    | nil => have := (toListNil rest).1 hh; omega
    | cons a l => rfl
  have h0' : (0 : Int) < rest.size := by omega
  have hn' : ((wd.size : Nat) : Int) = n := by omega
  have hn1 : (1 : Int) ≤ n := by omega
  have hnr' : (n : Int) ≤ rest.size := by omega
  have hmax : max (n : Int) 1 = n := by omega
  have HA := hid hA
  clear hA h1 hwd
  go_enter Tryd.func43, Tryd.ntmps43
  go_wp2_with fail
  go_region_with (go_at_call 64; refine (HS.out _).mono ?_; rintro e w1 ⟨rfl, rfl⟩)
  all_goals
    go_wp2_with fail
    have hA2 : RdC (w.setCell ⟨P, 1, none⟩ (.int .i64 (p : Int))).drew P s p bt sp := (HA.out.set p).drew
    have hK2 : KeepBut P w (w.setCell ⟨P, 1, none⟩ (.int .i64 (p : Int))).drew := ((KeepBut.refl P w).set 1 _).drew
    generalize (w.setCell ⟨P, 1, none⟩ (.int .i64 (p : Int))).drew = w2 at *
    clear c0 c1 f1 z0 HA
    have c0 := hA2.cell 0
    have c1 := hA2.cell 1
    have f1 := hA2.free 1
    have z0 := hA2.lt
    simp at c0 c1
    go_quiet (fail)
    go_wp2_with (go_at_call 65; refine (HW.out _).mono ?_; rintro e w3 ⟨rfl, rfl⟩)
    go_ret2
    refine ⟨?_, ?_, (hK2.drewN _).set 1 _⟩
    · first | rfl | (simp; done)
    · have q := RdC.set (At.drewN' hA2 nq) (p + n)
      simpa using q
set_option maxHeartbeats 1000000 in
theorem token_angle (s rest t : ByteArray) (a p m : Nat) (bt : Int) (sp : Value) (P : Nat) (w : World) (hs : s.size ≤ 50000) (ha : a ≤ s.size) (h1 : skipP s a = p) (hp : p < s.size) (hr : s.extract p s.size = rest) (hrs : rest.size = s.size - p) (h0 : 0 < rest.size)
    (hc : (rest[0].toNat : Int) = 60) (hix : Lib.indexByte rest.data.toList 62 = (m : Int)) (hnr : 1 + m ≤ rest.size) (ht : rest.extract 0 (1 + m) = t) (hA : RdC w P s a bt sp) :
    Calls Tryd.prog 43 #[.pointer (some ⟨P, 0, none⟩)] w fun e w' => e = .returned (.tuple #[.string t, .nilIface]) ∧ RdC w' P s (p + (1 + m)) bt sp ∧ KeepBut P w w' := by
  have c0 := hA.cell 0
  have c1 := hA.cell 1
  have f1 := hA.free 1
  have z0 := hA.lt
  simp at c0 c1
  have HS := hid (fun W => skip_at (s := s) (a := a) (p := p) W ha (by omega) h1)
  have HW := hid (fun W => word_at0 rest W (by omega))
  have hp0 : (0 : Int) ≤ (p : Int) := by omega
  have hp1 : (p : Int) ≤ s.size := by omega
  have hie : rest.toList.isEmpty = false := by cases hh : rest.toList with
    | nil => have := (toListNil rest).1 hh; omega
    | cons a l => rfl
  have h0' : (0 : Int) < rest.size := by omega
  have hnr' : 1 + (m : Int) ≤ rest.size := by omega
  have hm0 : (0 : Int) ≤ 1 + (m : Int) := by omega
  have hix3 : (1 + (m : Int) == 0) = false := by simp; omega
  have HA := hid hA
  clear hA h1
  go_enter Tryd.func43, Tryd.ntmps43
  go_wp2_with fail
  go_region_with (go_at_call 64; refine (HS.out _).mono ?_; rintro e w1 ⟨rfl, rfl⟩)
  all_goals
    go_wp2_with fail
    have hA2 : RdC (w.setCell ⟨P, 1, none⟩ (.int .i64 (p : Int))).drew P s p bt sp := (HA.out.set p).drew
    have hK2 : KeepBut P w (w.setCell ⟨P, 1, none⟩ (.int .i64 (p : Int))).drew := ((KeepBut.refl P w).set 1 _).drew
    generalize (w.setCell ⟨P, 1, none⟩ (.int .i64 (p : Int))).drew = w2 at *
    clear c0 c1 f1 z0 HA
    have c0 := hA2.cell 0
    have c1 := hA2.cell 1
    have f1 := hA2.free 1
    have z0 := hA2.lt
    simp at c0 c1
    go_quiet (fail)
    go_wp2_with (first | (go_at_call 65; refine (HW.out _).mono ?_; rintro e w3 ⟨rfl, rfl⟩) | (go_at_call 66; refine (Tryd.strings_IndexByte _ _ _).mono ?_; rintro e w3 ⟨rfl, rfl⟩))
    go_ret2
    refine ⟨?_, ?_, (hK2.drewN _).set 1 _⟩
    · first | rfl | (simp; done) | (rw [← ht]; rfl)
    · have q := RdC.set (At.drewN' hA2 nq) (p + (1 + m))
      simpa using q
set_option maxHeartbeats 1000000 in
theorem token_end (s : ByteArray) (a : Nat) (bt : Int) (sp : Value) (P : Nat) (w : World) (hs : s.size ≤ 50000) (ha : a ≤ s.size) (h1 : skipP s a = s.size) (hA : RdC w P s a bt sp) :
    Calls Tryd.prog 43 #[.pointer (some ⟨P, 0, none⟩)] w fun e w' => e = .returned (.tuple #[.string ⟨#[]⟩, .nilIface]) ∧ RdC w' P s s.size bt sp ∧ KeepBut P w w' := by
  have c0 := hA.cell 0
  have c1 := hA.cell 1
  have f1 := hA.free 1
  have z0 := hA.lt
  simp at c0 c1
  have HS := hid (fun W => skip_at (s := s) (a := a) (p := s.size) W ha (by omega) h1)
  obtain ⟨p, hp⟩ : ∃ p, p = s.size := ⟨_, rfl⟩
  rw [← hp] at HS ⊢
  have hp0 : (0 : Int) ≤ (p : Int) := by omega
  have hp1 : (p : Int) ≤ s.size := by omega
  obtain ⟨rest, hr⟩ : ∃ r, s.extract p s.size = r := ⟨_, rfl⟩
  have hie : rest.toList.isEmpty = true := by
    have : rest.size = 0 := by rw [← hr]; simp; omega
    rw [(toListNil rest).2 this]; rfl
  have HA := hid hA
  clear hA h1 hp
  go_enter Tryd.func43, Tryd.ntmps43
  go_wp2_with fail
  go_region_with (go_at_call 64; refine (HS.out _).mono ?_; rintro e w1 ⟨rfl, rfl⟩)
  all_goals
    go_wp2_with fail
    have hA2 : RdC (w.setCell ⟨P, 1, none⟩ (.int .i64 (p : Int))).drew P s p bt sp := (HA.out.set p).drew
    have hK2 : KeepBut P w (w.setCell ⟨P, 1, none⟩ (.int .i64 (p : Int))).drew := ((KeepBut.refl P w).set 1 _).drew
    generalize (w.setCell ⟨P, 1, none⟩ (.int .i64 (p : Int))).drew = w2 at *
    clear c0 c1 f1 z0 HA
    have c0 := hA2.cell 0
    have c1 := hA2.cell 1
    have f1 := hA2.free 1
    have z0 := hA2.lt
    simp at c0 c1
    go_quiet (fail)
    go_wp2_with fail
    go_ret2
    exact ⟨rfl, At.drewN' hA2 nq, hK2.drewN _⟩
end Go.Proofs.YtggojafapieliabDoor
