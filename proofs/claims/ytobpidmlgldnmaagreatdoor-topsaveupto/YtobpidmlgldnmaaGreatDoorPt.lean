/-
  Joined: Fb, Bx, Pt.
-/
import Derived.Test.YtobpidmlgldnmaaGreatDoorFa
import Derived.Deep.QuietTactic
import Derived.BigQuiet
import Derived.BigRegion
import Derived.Lib.ItoaMem
import Derived.Lib.Bytealg
import Derived.Lib.ItoaLen

/-
  Contracts: is one of some numbers none; products and sums, of the program and of the document's answer.
-/
namespace Go.Proofs.YtobpidmlgldnmaaGreatDoor
open Go.RowKit
set_option maxRecDepth 100000

def anyBad (zs : List Int) : Bool := zs.any fun z => !okF z
theorem anyBad_take_succ (zs : List Int) (k : Nat) (h : k < zs.length) : anyBad (zs.take (k + 1)) = (anyBad (zs.take k) || !okF zs[k]) := by
  unfold anyBad; rw [List.take_succ_eq_append_getElem h, List.any_append]; simp only [List.any_cons, List.any_nil, Bool.or_false]

set_option maxHeartbeats 400000 in
theorem bad1_ok (n : Int) (w : World) (h : okF n = true) :
    Calls Tryz.prog 125 #[.int .i64 n] w fun e w' => e = .returned (.bool false) ∧ w' = w := by
  have hc : ∀ w, Calls Tryz.prog 65 #[.int .i64 n] w fun e w' => e = .returned .nilIface ∧ w' = w := fun w => by have := check_any n w; rwa [flt_ok h, errN_0] at this
  go_enter Tryz.func125, Tryz.ntmps125
  go_wp2_with (go_at_call 65; refine (hc _).mono ?_; rintro e w' ⟨rfl, rfl⟩)
  go_ret
  exact ⟨rfl, rfl⟩
set_option maxHeartbeats 400000 in
theorem bad1_bad (n : Int) (w : World) (h : okF n = false) :
    Calls Tryz.prog 125 #[.int .i64 n] w fun e w' => e = .returned (.bool true) ∧ w' = w := by
  have hc : ∀ w, Calls Tryz.prog 65 #[.int .i64 n] w fun e w' => e = .returned (.iface 68 (.int .i64 1)) ∧ w' = w := fun w => by have := check_any n w; rwa [flt_bad h, errN_1] at this
  go_enter Tryz.func125, Tryz.ntmps125
  go_wp2_with (go_at_call 65; refine (hc _).mono ?_; rintro e w' ⟨rfl, rfl⟩)
  go_ret
  exact ⟨rfl, rfl⟩
set_option maxHeartbeats 400000 in
theorem indexBad_any (b off c : Nat) (zs : List Int) (w : World) (hn : zs.length ≤ 1000)
    (hc : ∀ k, k < zs.length → w.cell? ⟨b, off + k, none⟩ = some (.int .i64 (zs.getD k 0))) :
    Calls Tryz.prog 142 #[.slice (some ⟨b, off, none⟩) zs.length c, .func (.func 125) #[] #[]] w fun e w' => (∃ k : Int, e = .returned (.int .i64 k) ∧ (decide (0 ≤ k) = anyBad zs)) ∧ w' = w := by
  go_enter Tryz.func142, Tryz.ntmps142
  go_wp2
  go_loop [8] (fun i => ∃ k : Nat, k ≤ zs.length ∧ i = .int .i64 k ∧ anyBad (zs.take k) = false) (fun i => zs.length - (intOf i).toNat)
  case atStart => exact ⟨0, Nat.zero_le _, rfl, rfl⟩
  case round =>
    obtain ⟨k, hk, rfl, hno⟩ := hrel
    by_cases hlt : k < zs.length
    · have hcell := hc k hlt
      have HT := hid (anyBad_take_succ zs k hlt)
      have HN := hid hno
      have hz : zs.getD k 0 = zs[k] := by simp [List.getD, hlt]
      rw [hz] at hcell
      clear hc hno hz
      cases hb : okF zs[k]
      · have hcall := fun w => bad1_bad zs[k] w hb
        go_wp2_with (go_at_call 125; refine (hcall _).mono ?_; rintro e w' ⟨rfl, rfl⟩)
        go_ret
        refine ⟨⟨k, rfl, ?_⟩, rfl⟩
        have h1 : anyBad (zs.take (k + 1)) = true := by rw [HT.out, hb]; simp
        have h2 : anyBad zs = true := by
          unfold anyBad at *; rw [List.any_eq_true] at *
          obtain ⟨x, hx, hy⟩ := h1
          exact ⟨x, List.mem_of_mem_take hx, hy⟩
        rw [h2]; simp
      · have hcall := fun w => bad1_ok zs[k] w hb
        go_wp2_with (go_at_call 125; refine (hcall _).mono ?_; rintro e w' ⟨rfl, rfl⟩)
        go_round
        case rel => exact ⟨k + 1, by omega, by go_num, by rw [HT.out, HN.out, hb]; rfl⟩
        case measure => simp [intOf]; omega
    · have HN := hid hno
      clear hc hno
      go_wp2
      go_ret
      refine ⟨⟨-1, rfl, ?_⟩, rfl⟩
      have := HN.out
      rw [List.take_of_length_le (by omega)] at this
      rw [this]; rfl

set_option maxHeartbeats 400000 in
theorem containsBad_any (b off c n : Nat) (zs : List Int) (w : World) (hl : zs.length = n) (hn : zs.length ≤ 1000)
    (hc : ∀ k, k < zs.length → w.cell? ⟨b, off + k, none⟩ = some (.int .i64 (zs.getD k 0))) :
    Calls Tryz.prog 124 #[.slice (some ⟨b, off, none⟩) n c, .func (.func 125) #[] #[]] w fun e w' => e = .returned (.bool (anyBad zs)) ∧ w' = w := by
  subst hl
  have hi := indexBad_any b off c zs w hn hc
  clear hc
  go_enter Tryz.func124, Tryz.ntmps124
  go_wp2_with (go_at_call 142; refine hi.mono ?_; rintro e w' ⟨⟨k, rfl, hk⟩, rfl⟩)
  go_ret
  exact ⟨ret_bool (by rw [← hk]), rfl⟩

set_option maxHeartbeats 400000 in
theorem someNone_any (b off c n : Nat) (zs : List Int) (w : World) (hl : zs.length = n) (hn : zs.length ≤ 1000)
    (hc : ∀ k, k < zs.length → w.cell? ⟨b, off + k, none⟩ = some (.int .i64 (zs.getD k 0))) :
    Calls Tryz.prog 100 #[.slice (some ⟨b, off, none⟩) n c] w fun e w' => e = .returned (.bool (anyBad zs)) ∧ w' = w := by
  have hi := containsBad_any b off c n zs w hl hn hc
  clear hc
  go_enter Tryz.func100, Tryz.ntmps100
  go_wp2_with (go_at_call 124; refine hi.mono ?_; rintro e w' ⟨rfl, rfl⟩)
  go_ret
  exact ⟨rfl, rfl⟩

/-- The same at a list that was just laid. -/
theorem someNone_new (zs : List Int) (n : Nat) (cs : Array Value) (w : World) (hl : zs.length = n) (hn : zs.length ≤ 1000) (hcs : cs = (zs.map (Value.int .i64)).toArray) :
    Calls Tryz.prog 100 #[.slice (some ⟨w.heap.size, 0, none⟩) n n] (w.alloc (.cells cs 3)) fun e w' => e = .returned (.bool (anyBad zs)) ∧ w' = w.alloc (.cells cs 3) := by
  refine someNone_any w.heap.size 0 n n zs _ hl hn fun k hk => ?_
  rw [World.cell?_alloc_new, hcs]
  simp [List.getD, hk]

theorem anyBad_2 (a b : Int) : anyBad [a, b] = (!okF a || !okF b) := by simp [anyBad]

set_option maxHeartbeats 400000 in
theorem mul_any (a b : Int) (w : World) :
    Calls Tryz.prog 108 #[.int .i64 a, .int .i64 b] w fun e w' => e = .returned (.tuple #[.int .i64 (linN a b 0 0 0), errN (linE a b 0 0 0)]) ∧ Below w.heap.size w w' := by
  cases hb : anyBad [a, b]
  · have hn := someNone_new [a, b] 2 #[.int .i64 a, .int .i64 b] w rfl (by simp) rfl
    rw [hb] at hn
    rw [anyBad_2] at hb
    have ha : okF a = true := by revert hb; cases okF a <;> simp
    have hb : okF b = true := by revert hb; cases okF b <;> simp
    have ht := fun w => together_any a b 0 0 0 w ha hb rfl rfl rfl
    go_enter Tryz.func108, Tryz.ntmps108
    go_wp2_with (first
      | (go_at_call 100; refine hn.mono ?_; rintro e w' ⟨rfl, rfl⟩)
      | (go_at_call 101; refine (ht _).mono ?_; rintro e w' ⟨rfl, rfl⟩))
    go_ret2
    exact ⟨rfl, (Below.refl _ _).alloc (Nat.le_refl _) _⟩
  · have hn := someNone_new [a, b] 2 #[.int .i64 a, .int .i64 b] w rfl (by simp) rfl
    rw [hb] at hn
    rw [anyBad_2] at hb
    obtain ⟨q1, q2⟩ := lin_bad (a := a) (x := b) (c := 0) (y := 0) (e := 0) (by revert hb; cases okF a <;> cases okF b <;> simp)
    rw [q1, q2, errN_1]
    go_enter Tryz.func108, Tryz.ntmps108
    go_wp2_with (go_at_call 100; refine hn.mono ?_; rintro e w' ⟨rfl, rfl⟩)
    go_ret2
    exact ⟨rfl, (Below.refl _ _).alloc (Nat.le_refl _) _⟩

set_option maxHeartbeats 400000 in
theorem add_any (a b : Int) (w : World) :
    Calls Tryz.prog 131 #[.int .i64 a, .int .i64 b] w fun e w' => e = .returned (.tuple #[.int .i64 (addN a b), errN (addE a b)]) ∧ Below w.heap.size w w' := by
  cases hb : anyBad [a, b]
  · have hn := someNone_new [a, b] 2 #[.int .i64 a, .int .i64 b] w rfl (by simp) rfl
    rw [hb] at hn
    rw [anyBad_2] at hb
    have ha : okF a = true := by revert hb; cases okF a <;> simp
    have hb : okF b = true := by revert hb; cases okF b <;> simp
    have a1 := okF_iff.1 ha
    have b1 := okF_iff.1 hb
    cases ho : okF (a + b)
    · obtain ⟨q1, q2⟩ := add_bad (a := a) (b := b) (by simp [ho])
      rw [q1, q2, errN_1]
      have o1 := okF_not.1 ho
      clear ha hb ho q1 q2
      go_enter Tryz.func131, Tryz.ntmps131
      go_wp2_with (first
        | (go_at_call 100; refine hn.mono ?_; rintro e w' ⟨rfl, rfl⟩)
        | (go_at_call 126; refine (number_bad _ _ (by omega)).mono ?_; rintro r w' ⟨rfl, rfl⟩))
      go_ret2
      exact ⟨rfl, (Below.refl _ _).alloc (Nat.le_refl _) _⟩
    · obtain ⟨q1, q2⟩ := add_ok ha hb ho
      rw [q1, q2, errN_0]
      have o1 := okF_iff.1 ho
      clear ha hb ho q1 q2
      go_enter Tryz.func131, Tryz.ntmps131
      go_wp2_with (first
        | (go_at_call 100; refine hn.mono ?_; rintro e w' ⟨rfl, rfl⟩)
        | (go_at_call 126; refine (number_ok _ _ (by omega) (by omega)).mono ?_; rintro r w' ⟨rfl, rfl⟩))
      go_ret2
      exact ⟨rfl, (Below.refl _ _).alloc (Nat.le_refl _) _⟩
  · have hn := someNone_new [a, b] 2 #[.int .i64 a, .int .i64 b] w rfl (by simp) rfl
    rw [hb] at hn
    rw [anyBad_2] at hb
    obtain ⟨q1, q2⟩ := add_bad (a := a) (b := b) (by revert hb; cases okF a <;> cases okF b <;> simp)
    rw [q1, q2, errN_1]
    go_enter Tryz.func131, Tryz.ntmps131
    go_wp2_with (go_at_call 100; refine hn.mono ?_; rintro e w' ⟨rfl, rfl⟩)
    go_ret2
    exact ⟨rfl, (Below.refl _ _).alloc (Nat.le_refl _) _⟩

end Go.Proofs.YtobpidmlgldnmaaGreatDoor

/-
  Bytes in memory, and as a text: what every walk over them shares.
-/
namespace Go.Proofs.YtobpidmlgldnmaaGreatDoor
open Go.RowKit
set_option maxRecDepth 100000

/-- A byte as a cell. -/
def byteV (b : UInt8) : Value := .int .u8 (b.toNat : Int)
theorem bytes_of_own {w : World} {b : Nat} {v : Value} {n : Nat} {d : List UInt8} (h : w.ownsRow b 5 1 v n (d.map byteV)) (hn : 0 < n) : ∃ g c, v = .slice (some ⟨g, 0, none⟩) n c ∧ ∀ (k : Nat) (hk : k < d.length), w.cell? ((⟨g, 0, none⟩ : Addr).add k) = some (.int .u8 (d[k].toNat : Int)) := by
  have h0 := h
  obtain ⟨_, ⟨_, h2⟩ | ⟨g, cap, cur, rfl, _⟩⟩ := h
  · omega
  · exact ⟨g, cap, rfl, fun k hk => h0.cells (g := g) rfl k _ (by simp [hk, byteV])⟩
theorem conv_row {w : World} {d : List UInt8} {n g c : Nat} (hn : d.length = n) (hc : ∀ (k : Nat) (hk : k < d.length), w.cell? ((⟨g, 0, none⟩ : Addr).add k) = some (.int .u8 (d[k].toNat : Int))) :
    (convert 144 9 (.slice (some ⟨g, 0, none⟩) n c)).run Tryz.prog w = .ok (.string ⟨d.toArray⟩) w := by
  subst hn
  exact run_convert_bytes_back (P := Tryz.prog) w 144 9 5 ⟨g, 0, none⟩ c d Tryz.underlying144 Tryz.underlying5 Tryz.underlying9 hc
theorem info5 : (Tryz.prog.info? 5).map (fun i => (i.zero, i.size, i.bytes)) = some (some (.int .u8 0), 1, 1) := by kernel_rfl
theorem take_snoc (s : ByteArray) (k : Nat) (h : k < s.size) : s.data.toList.take (k + 1) = s.data.toList.take k ++ [s[k]] := by
  rw [List.take_succ_eq_append_getElem (by simpa using h)]; rfl

theorem indexByte_neg : ∀ (l : List UInt8) (c : UInt8), (Lib.indexByte l c < 0 ↔ l.contains c = false)
  | [], c => by simp [Lib.indexByte]
  | a :: l, c => by
    have ih := indexByte_neg l c
    have ge := Lib.indexByte_ge l c
    unfold Lib.indexByte
    rw [List.contains_cons]
    by_cases hac : a = c
    · subst hac; simp
    · rw [if_neg (by simpa using hac), show (c == a) = false from by simpa using fun e => hac e.symm, Bool.false_or, ← ih]
      split
      · rename_i h; simp at h; omega
      · rename_i h; simp at h; omega
end Go.Proofs.YtobpidmlgldnmaaGreatDoor

/-
  Plain: the text of a number of thousandths, and the digits behind its point.
-/
namespace Go.Proofs.YtobpidmlgldnmaaGreatDoor
open Go.RowKit

/-- A digit's letter. -/
def dgt (d : Nat) : UInt8 := UInt8.ofNat (48 + d)
/-- The digits behind the point, as many as fuel allows, no noughts behind. -/
def digs : Nat → Nat → List UInt8
  | 0, _ => []
  | f + 1, n => if n = 0 then [] else dgt (n / 100) :: digs f (n % 100 * 10)
def frac (m : Nat) : List UInt8 := if m = 0 then [] else 46 :: digs 3 m
/-- The text of a number. -/
def fixTxt (n : Int) : List UInt8 := (if n < 0 then [45] else []) ++ Lib.decDigits (n.natAbs / 1000) ++ frac (n.natAbs % 1000)

end Go.Proofs.YtobpidmlgldnmaaGreatDoor
