/-
  Codes and signs as bytes: the program's.
-/
import Derived.Test.YtggojafapieliabDoorCf
import Derived.WalkSmall
import Derived.Laws.DeepBits32
import Derived.Lib.OthersKept
namespace Go.Proofs.YtggojafapieliabDoor
open Go.RowKit
set_option maxRecDepth 100000
attribute [local go_sem ↓] Go.wp_at_zero Go.wp_at_succ

theorem atEq {w : World} {b : Nat} {t : TypeId} {cs ds : Array Value} (h : At w b t cs) (e : cs = ds) : At w b t ds := by rw [← e]; exact h
set_option maxHeartbeats 1000000 in
theorem codeBytes_says (c : Nat) (wide : Bool) (w : World) (hc : (c : Int) ≤ mostOf wide) :
    Calls Tryd.prog 30 #[.int .i64 c, .bool wide] w fun e w' => e = .returned (.slice (some ⟨w.heap.size, 0, none⟩) (cdB c wide).length (cdB c wide).length) ∧ At w' w.heap.size 5 ((cdB c wide).map byteV).toArray ∧ Below w.heap.size w w' := by
  cases wide
  · have h1 : (c : Int) ≤ 255 := hc
    go_enter Tryd.func30, Tryd.ntmps30
    go_wp2_with fail
    go_ret
    refine ⟨rfl, ?_, by go_grown⟩
    refine atEq (At.new w _ _ rfl) ?_
    simp [cdB, byteV]
    omega
  · have h1 : (c : Int) ≤ 65535 := hc
    go_enter Tryd.func30, Tryd.ntmps30
    go_wp2_with fail
    go_ret
    refine ⟨rfl, ?_, by go_grown⟩
    refine atEq (At.new w _ _ rfl) ?_
    simp [cdB, un2, byteV]
    omega
set_option maxHeartbeats 1000000 in
theorem addUnit_says (B : Nat) (sv : Value) (xs : List UInt8) (r : Nat) (w : World) (hr : (r : Int) ≤ 65535) (hown : Own8 w B sv xs) (hB : B ≤ w.heap.size) (hlim : xs.length ≤ 100000000) :
    Calls Tryd.prog 57 #[sv, .int .i32 r] w fun e w' => ∃ v', e = .returned v' ∧ Own8 w' B v' (xs ++ un2 r) ∧ Grew sv w v' w' := by
  go_enter Tryd.func57, Tryd.ntmps57
  go_wp2_with (at_builtin; refine wpApp8g rfl (.tmp 5) (.tmp 11) rfl B _ xs rfl (hown.alloc _) w.heap.size (un2 r) 2 2 rfl (0, 0) rfl _ ?cc (heap_alloc_new _ _) (by omega) (by simp; omega) ?_)
  case cc => simp [un2, byteV]; omega
  intro v1 w1 hown1 hk1
  go_wp2
  go_ret
  exact ⟨_, rfl, hown1, hk1.unalloc⟩
theorem and1023n (x : Nat) (hx : x < 1048576) : bits .and .i32 (x : Int) 1023 = ((x % 1024 : Nat) : Int) := by
  show IntKind.i32.wrap ((BitVec.ofInt 32 (x : Int) &&& BitVec.ofInt 32 1023).toNat : Int) = _
  have h1 : (BitVec.ofInt 32 1023).toNat = 1023 := by decide
  rw [BitVec.toNat_and, ofInt_u32 x (by omega), h1, show 1023 = 2 ^ 10 - 1 by decide, Nat.and_two_pow_sub_one_eq_mod]
  exact wrap_i32_small _ (by omega) (by omega)
theorem and1023 (z : Int) (h0 : 0 ≤ z) (h1 : z < 1048576) : bits .and .i32 z 1023 = z % 1024 := by
  obtain ⟨x, rfl⟩ := Int.eq_ofNat_of_zero_le h0
  rw [and1023n x (by omega)]; simp
theorem unitsL_snoc (a : List Nat) (r : Nat) : unitsL (a ++ [r]) = unitsL a ++ unR r := by unfold unitsL; rw [List.flatMap_append, List.flatMap_singleton]
set_option maxHeartbeats 2000000 in
theorem units_says (s : ByteArray) (rs : List Nat) (w : World) (hs : s.size ≤ 1000) (hr : rns s.data.toList = some rs) :
    Calls Tryd.prog 31 #[.string s] w fun e w' => ∃ v', e = .returned v' ∧ Own8 w' (w.heap.size + 1) v' (unitsL rs) ∧ Below w.heap.size w w' := by
  obtain ⟨hok, htx⟩ := rns_some _ _ rs (Nat.le_refl _) hr
  have HOK := hid hok
  have hrl : rs.length ≤ 1000 := by
    have q := (rns_len rs).1
    rw [← htx] at q
    have : s.data.toList.length = s.size := by simp
    omega
  have HTX := hid htx
  clear hok htx hr
  go_enter Tryd.func31, Tryd.ntmps31
  go_wp2_with fail
  go_loopw [3] (fun t wr => ∃ (pos : Nat) (a b : List Nat), Hid (rs = a ++ b) ∧ Hid (s.data.toList.drop pos = txtR b ∧ pos ≤ s.size) ∧ Own8 wr (w.heap.size + 1) t (unitsL a) ∧ wr.heap[w.heap.size]? = some (.stringIter s pos) ∧ Below w.heap.size w wr) (fun _ wr => s.size - wr.iterPos w.heap.size)
  case atStart =>
    refine ⟨0, [], rs, rfl, ⟨by rw [List.drop_zero]; exact HTX.out, Nat.zero_le _⟩, Own8.nil _ _, ?_, (Below.refl _ w).alloc (Nat.le_refl _) _⟩
    have := World.iter_heap w s 0
    simpa using this
  case round =>
    obtain ⟨pos, a, b, HAB, HD, hown, hit, hbw⟩ := hrel
    have hsz : w.heap.size < wr.heap.size := (Array.getElem?_eq_some_iff.1 hit).1
    have hal : a.length ≤ 1000 := by have := congrArg List.length HAB.out; rw [List.length_append] at this; omega
    have hul := unitsL_len a
    obtain ⟨hd0, hpl⟩ := HD.out
    by_cases hp : pos < s.size
    · have hnx : ∀ ty, (Instr.next (.pointer (some ⟨w.heap.size, 0, none⟩)) true ty).run Tryd.prog wr = _ := fun ty => Lib.run_next_any_at wr w.heap.size s pos ty hit hp
      cases b with
      | nil =>
        exfalso
        have := congrArg List.length hd0
        rw [List.length_drop] at this
        simp [txtR] at this; omega
      | cons r b =>
        have hor : okR r := HOK.out r (by rw [HAB.out]; simp)
        have hdec : Utf8.decode s pos = (r, (encR r).length) := by
          rw [← Lib.decodeL_drop, hd0]; exact decode_enc r hor _
        have hel := encR_len r
        have hd2 : s.data.toList.drop (pos + (encR r).length) = txtR b := by
          rw [← List.drop_drop, hd0]; show (encR r ++ txtR b).drop _ = _; rw [List.drop_left]
        have hpl2 : pos + (encR r).length ≤ s.size := by
          have := congrArg List.length hd0
          rw [List.length_drop] at this
          have h3 : (txtR (r :: b)).length = (encR r).length + (txtR b).length := by show (encR r ++ txtR b).length = _; rw [List.length_append]
          have : s.data.toList.length = s.size := by simp
          omega
        rw [hdec] at hnx
        simp only at hnx
        have hown2 : Own8 (wr.iterAt w.heap.size s (pos + (encR r).length)) (w.heap.size + 1) _ (unitsL a) := ownsRow_iterAt hown (by omega) _ _
        have hit2 := Lib.iterAt_heap wr w.heap.size s pos (pos + (encR r).length) hit
        have hbw2 := Lib.below_iterAt hbw (k := w.heap.size) (by omega) s (pos + (encR r).length)
        have hsz2 : w.heap.size + 1 ≤ (wr.iterAt w.heap.size s (pos + (encR r).length)).heap.size := by rw [Lib.iterAt_size]; omega
        have HN := hid (And.intro hd2 hpl2)
        have HL := hid hel
        have hr2 : (r : Int) ≤ 1114111 := by unfold okR at hor; omega
        clear hor hd0 hdec hd2 hpl2 hown hbw HD hel hpl
        have hne : some w.heap.size ≠ u3.ownBlock := fun e => by have := (World.ownsRow.lt hown2 _ e.symm).1; omega
        generalize (encR r).length = z at *
        by_cases h6 : (65536 : Int) ≤ r
        · obtain ⟨h1, e1, k1⟩ : ∃ h1 : Nat, 55296 + ((r : Int) - 65536) / 1024 = h1 ∧ h1 = 55296 + (r - 65536) / 1024 := ⟨55296 + (r - 65536) / 1024, by omega, rfl⟩
          obtain ⟨l1, e2, k2⟩ : ∃ l1 : Nat, 56320 + ((r : Int) - 65536) % 1024 = l1 ∧ l1 = 56320 + (r - 65536) % 1024 := ⟨56320 + (r - 65536) % 1024, by omega, rfl⟩
          have HU := hid (show unR r = un2 h1 ++ un2 l1 by unfold unR; rw [if_neg (by omega), k1, k2])
          have hb1 : (h1 : Int) ≤ 65535 := by omega
          have hb2 : (l1 : Int) ≤ 65535 := by omega
          have ea := and1023 ((r : Int) - 65536) (by omega) (by omega)
          clear k1 k2
          go_wp2_with (go_at_call 57; fail)
          go_at_call 57
          refine (addUnit_says (w.heap.size + 1) _ (unitsL a) h1 _ hb1 hown2 hsz2 (by omega)).mono ?_
          rintro e w1 ⟨v1, rfl, hown3, hg3⟩
          have hrow1 := hg3.row hit2 hne
          have hsz3 : w.heap.size + 1 ≤ w1.heap.size := Nat.le_trans hsz2 hg3.size
          have hbw3 := hbw2.trans ((hg3.kept hown2 hsz2).below.mono (by omega : w.heap.size ≤ w.heap.size + 1))
          have hl3 : (unitsL a ++ un2 h1).length ≤ 100000000 := by rw [List.length_append]; simp [un2]; omega
          clear hg3 hown2 hbw2 hsz2 hit2 hne hnx
          go_wp2_with (go_at_call 57; fail)
          go_at_call 57
          refine (addUnit_says (w.heap.size + 1) _ (unitsL a ++ un2 h1) l1 _ hb2 hown3 hsz3 hl3).mono ?_
          rintro e w2 ⟨v2, rfl, hown4, hg4⟩
          have hrow := (hg4.row hrow1.1 hrow1.2).1
          go_wp2_with fail
          go_roundw
          case rel =>
            refine ⟨pos + z, a ++ [r], b, hid (by rw [HAB.out]; simp), HN, ?_, hrow, hbw3.trans ((hg4.kept hown3 hsz3).below.mono (by omega))⟩
            rw [unitsL_snoc, HU.out, ← List.append_assoc]; exact hown4
          case measure =>
            simp only [World.iterPos, hrow, hit]
            have := HL.out; omega
        · have hr3 : (r : Int) ≤ 65535 := by omega
          have HU := hid (show unR r = un2 r by unfold unR; rw [if_pos (by omega)])
          go_wp2_with (go_at_call 57; refine (addUnit_says (w.heap.size + 1) _ (unitsL a) r _ hr3 hown2 hsz2 (by omega)).mono ?_; rintro e w1 ⟨v1, rfl, hown3, hg3⟩)
          have hrow := (hg3.row hit2 hne).1
          go_roundw
          case rel =>
            refine ⟨pos + z, a ++ [r], b, hid (by rw [HAB.out]; simp), HN, ?_, hrow, hbw2.trans ((hg3.kept hown2 hsz2).below.mono (by omega))⟩
            rw [unitsL_snoc, HU.out]; exact hown3
          case measure =>
            simp only [World.iterPos, hrow, hit]
            have := HL.out; omega
    · have hnx : ∀ ty, (Instr.next (.pointer (some ⟨w.heap.size, 0, none⟩)) true ty).run Tryd.prog wr = _ := fun ty => Lib.run_next_end_at wr w.heap.size s pos ty hit hp
      go_wp2_with fail
      go_ret
      have hb0 : b = [] := by
        cases b with
        | nil => rfl
        | cons r b =>
          exfalso
          rw [List.drop_eq_nil_of_le (by simp; omega)] at hd0
          have := congrArg List.length hd0
          have h2 := (encR_len r).1
          have h3 : (txtR (r :: b)).length = (encR r).length + (txtR b).length := by show (encR r ++ txtR b).length = _; rw [List.length_append]
          rw [h3] at this
          simp at this; omega
      subst hb0
      refine ⟨_, rfl, ?_, hbw⟩
      rw [HAB.out, List.append_nil]; exact hown
end Go.Proofs.YtggojafapieliabDoor
