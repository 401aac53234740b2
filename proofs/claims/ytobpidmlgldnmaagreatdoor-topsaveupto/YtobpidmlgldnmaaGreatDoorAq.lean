/-
  Joined: Yb, Ap, Aq.
-/
import Derived.Test.YtobpidmlgldnmaaGreatDoorYa
import Derived.Test.YtobpidmlgldnmaaGreatDoorPt
import Derived.Test.YtobpidmlgldnmaaGreatDoorKb
import Derived.Lib.OthersKept
import Derived.Lib.AppendStr
import Derived.Maps.AppendAt
import Derived.RegionTactic
import Derived.Test.YtobpidmlgldnmaaGreatDoorRa
import Derived.Laws.OwnMore
import Derived.OneCell

/-
  The program's reader: pairs of digits, ends, digits to the base 8.
-/
namespace Go.Proofs.YtobpidmlgldnmaaGreatDoor
open Go.RowKit
set_option maxRecDepth 100000

def pairL : List UInt8 → Option UInt8
  | x :: y :: _ => if hexV x < 0 ∨ hexV y < 0 then none else some (UInt8.ofNat (16 * (hexV x).toNat + (hexV y).toNat))
  | _ => none
theorem pairL_cons (x y : UInt8) (r : List UInt8) : pairL (x :: y :: r) = if hexV x < 0 ∨ hexV y < 0 then none else some (UInt8.ofNat (16 * (hexV x).toNat + (hexV y).toNat)) := rfl
theorem toList_at {t : ByteArray} (h : 1 < t.size) : ∃ r, t.data.toList = t[0] :: t[1] :: r := by
  refine ⟨t.data.toList.drop 2, ?_⟩
  rw [show t.data.toList = t.data.toList.drop 0 from rfl, List.drop_eq_getElem_cons (i := 0) (by simp; omega), List.drop_eq_getElem_cons (i := 1) (by simpa using h)]; rfl
theorem toList_one {t : ByteArray} (h : t.size = 1) : t.data.toList = [t[0]] := by
  rw [show t.data.toList = t.data.toList.drop 0 from rfl, List.drop_eq_getElem_cons (i := 0) (by simp; omega), List.drop_of_length_le (by simp; omega)]; rfl
theorem toList_none {t : ByteArray} (h : t.size = 0) : t.data.toList = [] := List.eq_nil_of_length_eq_zero (by simpa using h)
theorem pairL_no {t : ByteArray} (h : t.size < 2) : pairL t.data.toList = none := by
  by_cases h0 : t.size = 0
  · rw [toList_none h0]; rfl
  · rw [toList_one (by omega)]; rfl
theorem pHexK (c : UInt8) (n h : Int) (hn : n = (c.toNat : Int)) (hh : hexV c = h) (w : World) :
    Calls Tryz.prog 119 #[.int .u8 n] w fun e w' => e = .returned (.int .i64 h) ∧ w' = w := by
  subst hn; subst hh; exact pHex c w
def pairV : Option UInt8 → Value
  | none => .tuple #[.int .u8 0, .bool false]
  | some c => .tuple #[.int .u8 (c.toNat : Int), .bool true]
set_option maxHeartbeats 1000000 in
theorem yPair (t : ByteArray) (w : World) (ht : t.size ≤ 100000) :
    Calls Tryz.prog 111 #[.string t] w fun e w' => e = .returned (pairV (pairL t.data.toList)) ∧ w' = w := by
  by_cases h0 : t.size = 0
  · have HP := hid (pairL_no (t := t) (by omega))
    have h0' : (t.size : Int) = 0 := by omega
    go_enter Tryz.func111, Tryz.ntmps111
    go_wp2
    go_loop [4, 6] (fun n i => n = .int .i64 0 ∧ i = .int .i64 0) (fun _ _ => 0)
    case atStart => exact ⟨rfl, rfl⟩
    case round =>
      obtain ⟨rfl, rfl⟩ := hrel
      go_wp2
      go_ret2
      exact ⟨by rw [HP.out]; rfl, rfl⟩
  · have hx0 : 0 < t.size := by omega
    have hx0' : (0 : Int) < t.size := by omega
    have z0 : ((0 : Int) == (t.size : Int)) = false := by simpa using (show ¬ (0 : Int) = t.size by omega)
    have hr0 := hexV_rng t[0]
    obtain ⟨a, ha⟩ : ∃ a, hexV t[0] = a := ⟨_, rfl⟩
    have HA := hid ha
    rw [ha] at hr0
    clear ha
    by_cases ha0 : a < 0
    · have HP := hid (show pairL t.data.toList = none by
        by_cases h1 : 1 < t.size
        · obtain ⟨r, hr⟩ := toList_at h1
          rw [hr]; rw [pairL_cons, if_pos (.inl (by rw [HA.out]; exact ha0))]
        · exact pairL_no (by omega))
      go_enter Tryz.func111, Tryz.ntmps111
      go_wp2
      go_loop [4, 6] (fun n i => n = .int .i64 0 ∧ i = .int .i64 0) (fun _ _ => 0)
      case atStart => exact ⟨rfl, rfl⟩
      case round =>
        obtain ⟨rfl, rfl⟩ := hrel
        go_wp2_with (go_at_call 119; refine (pHexK t[0] _ a rfl HA.out _).mono ?_; rintro e w1 ⟨rfl, rfl⟩)
        go_ret2
        exact ⟨by rw [HP.out]; rfl, rfl⟩
    · by_cases h1 : t.size = 1
      · have HP := hid (pairL_no (t := t) (by omega))
        have h1' : (t.size : Int) = 1 := by omega
        go_enter Tryz.func111, Tryz.ntmps111
        go_wp2
        go_loop [4, 6] (fun n i => (n = .int .i64 0 ∧ i = .int .i64 0) ∨ (n = .int .i64 a ∧ i = .int .i64 1)) (fun _ i => 2 - (intOf i).toNat)
        case atStart => exact .inl ⟨rfl, rfl⟩
        case round =>
          rcases hrel with ⟨rfl, rfl⟩ | ⟨rfl, rfl⟩
          · go_wp2_with (go_at_call 119; refine (pHexK t[0] _ a rfl HA.out _).mono ?_; rintro e w1 ⟨rfl, rfl⟩)
            go_round
            case rel => exact .inr ⟨rfl, rfl⟩
            case measure => simp [intOf]
          · go_wp2
            go_ret2
            exact ⟨by rw [HP.out]; rfl, rfl⟩
      · have hx1 : 1 < t.size := by omega
        have hx1' : (1 : Int) < t.size := by omega
        have z1 : ((1 : Int) == (t.size : Int)) = false := by simpa using (show ¬ (1 : Int) = t.size by omega)
        have hr1 := hexV_rng t[1]
        obtain ⟨b, hb⟩ : ∃ b, hexV t[1] = b := ⟨_, rfl⟩
        have HB := hid hb
        rw [hb] at hr1
        clear hb
        obtain ⟨r, hr⟩ := toList_at hx1
        have HL := hid hr
        clear hr
        by_cases hb0 : b < 0
        · have HP := hid (show pairL t.data.toList = none by
            rw [HL.out]; rw [pairL_cons, if_pos (.inr (by rw [HB.out]; exact hb0))])
          go_enter Tryz.func111, Tryz.ntmps111
          go_wp2
          go_loop [4, 6] (fun n i => (n = .int .i64 0 ∧ i = .int .i64 0) ∨ (n = .int .i64 a ∧ i = .int .i64 1)) (fun _ i => 2 - (intOf i).toNat)
          case atStart => exact .inl ⟨rfl, rfl⟩
          case round =>
            rcases hrel with ⟨rfl, rfl⟩ | ⟨rfl, rfl⟩
            · go_wp2_with (go_at_call 119; refine (pHexK t[0] _ a rfl HA.out _).mono ?_; rintro e w1 ⟨rfl, rfl⟩)
              go_round
              case rel => exact .inr ⟨rfl, rfl⟩
              case measure => simp [intOf]
            · go_wp2_with (go_at_call 119; refine (pHexK t[1] _ b rfl HB.out _).mono ?_; rintro e w1 ⟨rfl, rfl⟩)
              go_ret2
              exact ⟨by rw [HP.out]; rfl, rfl⟩
        · have HP := hid (show pairL t.data.toList = some (UInt8.ofNat (16 * a.toNat + b.toNat)) by
            rw [HL.out]; rw [pairL_cons, HA.out, HB.out, if_neg (by omega)])
          have hq : ((UInt8.ofNat (16 * a.toNat + b.toNat)).toNat : Int) = 16 * a + b := by simp only [UInt8.toNat_ofNat']; omega
          go_enter Tryz.func111, Tryz.ntmps111
          go_wp2
          go_loop [4, 6] (fun n i => (n = .int .i64 0 ∧ i = .int .i64 0) ∨ (n = .int .i64 a ∧ i = .int .i64 1) ∨ (n = .int .i64 (16 * a + b) ∧ i = .int .i64 2)) (fun _ i => 2 - (intOf i).toNat)
          case atStart => exact .inl ⟨rfl, rfl⟩
          case round =>
            rcases hrel with ⟨rfl, rfl⟩ | ⟨rfl, rfl⟩ | ⟨rfl, rfl⟩
            · go_wp2_with (go_at_call 119; refine (pHexK t[0] _ a rfl HA.out _).mono ?_; rintro e w1 ⟨rfl, rfl⟩)
              go_round
              case rel => exact .inr (.inl ⟨rfl, rfl⟩)
              case measure => simp [intOf]
            · go_wp2_with (go_at_call 119; refine (pHexK t[1] _ b rfl HB.out _).mono ?_; rintro e w1 ⟨rfl, rfl⟩)
              go_round
              case rel => exact .inr (.inr ⟨by go_num, rfl⟩)
              case measure => simp [intOf]
            · go_wp2
              go_ret2
              refine ⟨?_, rfl⟩
              rw [HP.out]
              show _ = Ending.returned (.tuple #[.int .u8 ((UInt8.ofNat (16 * a.toNat + b.toNat)).toNat : Int), .bool true])
              rw [hq]
              rfl
theorem ySkipEnd (P : Nat) (s : ByteArray) (k : Nat) (w : World) (hR : RdAt w P s k) (hk : k ≤ s.size) (hs : s.size ≤ 100000) (h : skipP s k = s.size) :
    Calls Tryz.prog 90 #[.pointer (some ⟨P, 0, none⟩)] w fun e w' => e = .returned (.iface 68 (.int .i64 5)) ∧ Moved P w w' s s.size := by
  have q := ySkip P s k w hR hk hs
  rw [show skipE s k = 5 by unfold skipE; rw [if_pos h], h] at q; exact q
theorem ySkipOk (P : Nat) (s : ByteArray) (k : Nat) (w : World) (hR : RdAt w P s k) (hk : k ≤ s.size) (hs : s.size ≤ 100000) (h : ¬ skipP s k = s.size) :
    Calls Tryz.prog 90 #[.pointer (some ⟨P, 0, none⟩)] w fun e w' => e = .returned .nilIface ∧ Moved P w w' s (skipP s k) := by
  have q := ySkip P s k w hR hk hs
  rw [show skipE s k = 0 by unfold skipE; rw [if_neg h]] at q; exact q
theorem yAheadB (P : Nat) (s p : ByteArray) (k : Nat) (b : Bool) (w : World) (hR : RdAt w P s k) (hk : k ≤ s.size) (hb : Lib.hasPrefix (s.data.toList.drop k) p.data.toList = b) :
    Calls Tryz.prog 91 #[.pointer (some ⟨P, 0, none⟩), .string p] w fun e w' => e = .returned (.bool b) ∧ Moved P w w' s k := by
  subst hb; exact yAhead P s p k w hR hk
/-- How an end was looked for: an error's number, is it there, and how far it came. -/
def endsR (s p : ByteArray) (k : Nat) : Int × Bool × Nat :=
  if skipP s k = s.size then (5, false, s.size) else if Lib.hasPrefix (s.data.toList.drop (skipP s k)) p.data.toList then (0, true, skipP s k + p.size) else (0, false, skipP s k)
set_option maxHeartbeats 1000000 in
theorem yEnds (P : Nat) (s p : ByteArray) (k : Nat) (w : World) (hR : RdAt w P s k) (hk : k ≤ s.size) (hs : s.size ≤ 100000) (hp : p.size ≤ 100) :
    Calls Tryz.prog 114 #[.pointer (some ⟨P, 0, none⟩), .string p] w fun e w' => e = .returned (.tuple #[.bool (endsR s p k).2.1, errN (endsR s p k).1]) ∧ Moved P w w' s (endsR s p k).2.2 := by
  have hkl := skipP_le hk
  by_cases he : skipP s k = s.size
  · have HE := hid (show endsR s p k = (5, false, s.size) by unfold endsR; rw [if_pos he])
    go_enter Tryz.func114, Tryz.ntmps114
    go_wp2_with (go_at_call 90; refine (ySkipEnd P s k _ hR hk hs he).mono ?_; rintro e w1 ⟨rfl, hm⟩)
    go_ret2
    rw [HE.out]
    exact ⟨rfl, hm⟩
  · have HNE := hid he
    clear he
    cases hb : Lib.hasPrefix (s.data.toList.drop (skipP s k)) p.data.toList
    · have HE := hid (show endsR s p k = (0, false, skipP s k) by unfold endsR; rw [if_neg HNE.out, hb]; rfl)
      have HB := hid hb
      go_enter Tryz.func114, Tryz.ntmps114
      go_wp2_with (first
        | (go_at_call 90; refine (ySkipOk P s k _ hR hk hs HNE.out).mono ?_; rintro e w1 ⟨rfl, hm⟩)
        | (go_at_call 91; refine (yAheadB P s p (skipP s k) false _ hm.at_ hkl.2 HB.out).mono ?_; rintro e w2 ⟨rfl, hm2⟩))
      go_ret2
      rw [HE.out]
      exact ⟨rfl, hm.trans hm2⟩
    · have HE := hid (show endsR s p k = (0, true, skipP s k + p.size) by unfold endsR; rw [if_neg HNE.out, hb]; rfl)
      have HB := hid hb
      go_enter Tryz.func114, Tryz.ntmps114
      go_wp2_with (first
        | (go_at_call 90; refine (ySkipOk P s k _ hR hk hs HNE.out).mono ?_; rintro e w1 ⟨rfl, hm⟩)
        | (go_at_call 91; refine (yAheadB P s p (skipP s k) true _ hm.at_ hkl.2 HB.out).mono ?_; rintro e w2 ⟨rfl, hm2⟩; have c1 := hm2.at_.c1; have f1 := At.free hm2.at_ 1))
      go_ret2
      rw [HE.out]
      exact ⟨rfl, (hm.trans hm2).set (j := skipP s k + p.size) (by omega)⟩
end Go.Proofs.YtobpidmlgldnmaaGreatDoor

/-
  Bytes that a call owns: what appending to them does, and what it leaves alone.
-/
namespace Go.Proofs.YtobpidmlgldnmaaGreatDoor
open Go.RowKit
set_option maxRecDepth 100000

/-- Bytes that a call owns. -/
def Own8 (w : World) (B : Nat) (v : Value) (xs : List UInt8) : Prop := w.ownsRow B 5 1 v xs.length (xs.map byteV)
/-- All else is as it was. -/
structure Kept8 (B : Nat) (w w' : World) : Prop where
  below : Below B w w'
  others : Lib.OthersKept 5 none w w'
theorem Kept8.refl (B : Nat) (w : World) : Kept8 B w w := ⟨Below.refl _ _, Lib.OthersKept.refl _ _ _⟩
theorem Kept8.trans {B : Nat} {a b c : World} (h : Kept8 B a b) (k : Kept8 B b c) : Kept8 B a c := ⟨h.below.trans k.below, h.others.trans k.others⟩
theorem Kept8.alloc {B : Nat} {a b : World} (h : Kept8 B a b) (hB : B ≤ b.heap.size) (o : Obj) : Kept8 B a (b.alloc o) := ⟨h.below.alloc hB o, h.others.alloc o⟩
theorem Kept8.drew {B : Nat} {a b : World} (h : Kept8 B a b) : Kept8 B a b.drew := ⟨h.below.drew, h.others.drew⟩
theorem Kept8.size {B : Nat} {a b : World} (h : Kept8 B a b) : a.heap.size ≤ b.heap.size := h.below.size
theorem Kept8.at {B : Nat} {a w : World} (h : Kept8 B a w) {b : Nat} {t : TypeId} {cs : Array Value} (ht : t ≠ 5) (ha : At a b t cs) : At w b t cs :=
  h.others b _ ha (by simp) (fun c fz e => by cases e; exact ht rfl)
theorem Own8.nil (w : World) (B : Nat) : Own8 w B (.slice none 0 0) [] := World.ownsRow_nil _ _ _ _
theorem Own8.alloc {w : World} {B : Nat} {v : Value} {xs : List UInt8} (h : Own8 w B v xs) (o : Obj) : Own8 (w.alloc o) B v xs := World.ownsRow.alloc h o
theorem Own8.drew {w : World} {B : Nat} {v : Value} {xs : List UInt8} (h : Own8 w B v xs) : Own8 w.drew B v xs := h
theorem own8_kind {w : World} {B : Nat} {v : Value} {xs : List UInt8} (h : Own8 w B v xs) : ∀ g, v.ownBlock = some g → ∃ c fz, w.heap[g]? = some (.cells c 5 fz) := by
  intro g hg
  rcases World.ownsRow.lt h g hg with ⟨h1, h2⟩
  rcases h.2 with ⟨rfl, _⟩ | ⟨g', cap, cur, rfl, _, hgg, _⟩
  · simp [Value.ownBlock] at hg
  · simp [Value.ownBlock] at hg
    subst hg
    exact ⟨cur, _, hgg⟩
theorem kept8_grown {w w' : World} {B : Nat} {v : Value} {xs : List UInt8} (h : Own8 w B v xs) (hB : B ≤ w.heap.size) (hg : w.grownBy w' v.ownBlock) : Kept8 B w w' :=
  ⟨(Below.refl _ _).grown hg hB (fun q hq => (World.ownsRow.lt h q hq).1), (Lib.OthersKept.refl _ _ _).grown hg (own8_kind h)⟩

/-- What an appending did: all but the row's own block, as it was; where the row lies now. -/
structure Grew (v : Value) (w : World) (v' : Value) (w' : World) : Prop where
  by_ : w.grownBy w' v.ownBlock
  at_ : v'.ownBlock = v.ownBlock ∨ ∃ g, v'.ownBlock = some g ∧ w.heap.size ≤ g
theorem Grew.refl (v : Value) (w : World) : Grew v w v w := ⟨⟨rfl, rfl, rfl, Nat.le_refl _, fun _ _ _ => rfl⟩, .inl rfl⟩
theorem Grew.size {v v' : Value} {w w' : World} (h : Grew v w v' w') : w.heap.size ≤ w'.heap.size := h.by_.size
theorem Grew.ahead {v v' : Value} {a w w' : World} (h : Grew v w v' w') (hs : a.heap.size ≤ w.heap.size) (hk : a.os = w.os ∧ a.tape = w.tape ∧ a.output = w.output) (hb : ∀ k, k < a.heap.size → w.heap[k]? = a.heap[k]?) : Grew v a v' w' :=
  ⟨⟨h.by_.os.trans hk.1.symm, h.by_.tape.trans hk.2.1.symm, h.by_.output.trans hk.2.2.symm, Nat.le_trans hs h.size, fun k hk' hne => (h.by_.block k (Nat.lt_of_lt_of_le hk' hs) hne).trans (hb k hk')⟩,
   h.at_.imp id (fun ⟨g, h1, h2⟩ => ⟨g, h1, Nat.le_trans hs h2⟩)⟩
theorem Grew.trans {v v1 v2 : Value} {w w1 w2 : World} (h : Grew v w v1 w1) (k : Grew v1 w1 v2 w2) : Grew v w v2 w2 := by
  refine ⟨⟨k.by_.os.trans h.by_.os, k.by_.tape.trans h.by_.tape, k.by_.output.trans h.by_.output, Nat.le_trans h.size k.size, fun i hi hne => ?_⟩, ?_⟩
  · refine (k.by_.block i (Nat.lt_of_lt_of_le hi h.size) ?_).trans (h.by_.block i hi hne)
    rcases h.at_ with e | ⟨g, e, hg⟩
    · rw [e]; exact hne
    · rw [e]; intro e'; cases e'; omega
  · rcases k.at_ with e | ⟨g, e, hg⟩
    · rw [e]; exact h.at_
    · exact .inr ⟨g, e, Nat.le_trans h.size hg⟩
theorem Grew.kept {v v' : Value} {w w' : World} {B : Nat} {xs : List UInt8} (h : Grew v w v' w') (ho : Own8 w B v xs) (hB : B ≤ w.heap.size) : Kept8 B w w' := kept8_grown ho hB h.by_
theorem Grew.unalloc {v v' : Value} {w w' : World} {o : Obj} (h : Grew v (w.alloc o) v' w') : Grew v w v' w' := h.ahead (by simp) ⟨rfl, rfl, rfl⟩ (fun _ hk => heap_alloc_old w o hk)
theorem Grew.undrew {v v' : Value} {w w' : World} (h : Grew v w.drew v' w') : Grew v w v' w' := h.ahead (Nat.le_refl _) ⟨rfl, rfl, rfl⟩ (fun _ _ => rfl)
theorem Grew.row {v v' : Value} {w w' : World} {g : Nat} {o : Obj} (h : Grew v w v' w') (hg : w.heap[g]? = some o) (hne : some g ≠ v.ownBlock) : w'.heap[g]? = some o ∧ some g ≠ v'.ownBlock := by
  have hl := (Array.getElem?_eq_some_iff.1 hg).1
  refine ⟨(h.by_.block g hl hne).trans hg, ?_⟩
  rcases h.at_ with e | ⟨g', e, h'⟩
  · rw [e]; exact hne
  · rw [e]; intro e'; cases e'; omega
theorem Own8.apart {w : World} {B : Nat} {v : Value} {xs : List UInt8} (h : Own8 w B v xs) {g : Nat} (hg : w.heap.size ≤ g) : some g ≠ v.ownBlock := fun e => by
  have := (World.ownsRow.lt h g e.symm).2; omega
theorem Own8.later {w w' : World} {B : Nat} {v : Value} {xs : List UInt8} (h : Own8 w B v xs) (hb : Below w.heap.size w w') : Own8 w' B v xs :=
  World.ownsRow.kept h (row := none) ⟨hb.os, hb.tape, hb.output, hb.size, fun k hk _ => hb.block k hk⟩ (by cases v.ownBlock <;> simp)
theorem one8 {x : Int} {c : UInt8} (h : (c.toNat : Int) = x) : #[Value.int .u8 x] = ([c].map byteV).toArray := by subst h; rfl
section
variable {W : World} {ops : Array Oper} {rest : List Oper} {o : Oper} {a : Act} {Q : Exit → Act → World → Prop}
theorem wpApp8 (hgd : o.guard = none) (s x : Operand) (ho : o.op = .call { callee := .builtin .append, args := #[s, x], argTypes := #[144, 144] })
    (B : Nat) (v : Value) (xs : List UInt8) (hs : a.eval s = v) (hown : Own8 W B v xs) (cells : Array Value) (ys : List UInt8) (m c : Nat) (hx : a.eval x = .slice (some ⟨W.heap.size, 0, none⟩) m c)
    (hm : ys.length = m) (hc : cells = (ys.map byteV).toArray) (hlim : xs.length + m ≤ 1000000000) (hB : B ≤ W.heap.size)
    (h : ∀ v' w', Own8 w' B v' (xs ++ ys) → Kept8 B W w' → wpList Tryz.prog ops Q rest (a.put o.dst v') w') :
    wpList Tryz.prog ops Q (o :: rest) a (W.alloc (.cells cells 5)) := by
  obtain ⟨i0, hi, hz0, hz1, hz2⟩ := info_parts info5
  subst hm
  subst hc
  refine wpList_append_own _ hgd s x 144 ho B 5 i0 (.int .u8 0) 1 1 Tryz.underlying144 hi hz0 hz1 hz2 rfl (by decide) v xs.length (xs.map byteV) hs (hown.alloc _) ⟨W.heap.size, 0, none⟩ ys.length c (ys.map byteV) hx (by simp) ?_ ?_ (by unfold maxLen; omega) (by omega) (by simp; omega) ?_
  · intro j u hj
    rw [Lib.add_plain, World.cell?_alloc_new]; simpa using hj
  · intro u hu
    obtain ⟨b, _, rfl⟩ := List.mem_map.1 hu
    rfl
  · intro v' w' h1 h2 _
    refine h v' w' ?_ ?_
    · unfold Own8; rw [List.length_append, List.map_append]; exact h1
    · exact ((Kept8.refl B W).alloc hB _).trans (kept8_grown (hown.alloc _) (by simp; omega) h2)
theorem run_app8 (B : Nat) (ty : TypeId) (v : Value) (xs : List UInt8) (hown : Own8 W B v xs) (g : Nat) (ys : List UInt8) (c : Nat) (fz : Nat × Nat) (hg : W.heap[g]? = some (.cells (ys.map byteV).toArray 5 fz))
    (hlim : xs.length + ys.length ≤ 1000000000) (hB : B ≤ W.heap.size) :
    ∃ v' w', (Builtin.append_ #[144, 144] ty #[v, .slice (some ⟨g, 0, none⟩) ys.length c]).run Tryz.prog W = .ok v' w' ∧ Own8 w' B v' (xs ++ ys) ∧ Grew v W v' w' := by
  obtain ⟨i0, hi, hz0, hz1, hz2⟩ := info_parts info5
  obtain ⟨v', w', hr, h2, h3, _, h5⟩ := run_append_own_at (P := Tryz.prog) W B 144 ty 5 i0 (.int .u8 0) 1 1 Tryz.underlying144 hi hz0 hz1 hz2 rfl (by decide) v xs.length (xs.map byteV) hown ⟨g, 0, none⟩ ys.length c (ys.map byteV) (by simp) (fun j u hj => by
      rw [Lib.add_plain, cell_of_row W g _ _ _ _ hg]; simpa using hj) (fun u hu => by obtain ⟨b, _, rfl⟩ := List.mem_map.1 hu; rfl) (by unfold maxLen; omega) (by omega) hB
  refine ⟨v', w', hr, ?_, h3, h5.imp id (fun e => ⟨_, e, Nat.le_refl _⟩)⟩
  unfold Own8; rw [List.length_append, List.map_append]; exact h2
theorem stepApp8g {K : Act → World → Prop} {E : Prop} (hgd : o.guard = none) (s x : Operand) (ho : o.op = .call { callee := .builtin .append, args := #[s, x], argTypes := #[144, 144] })
    (B : Nat) (v : Value) (xs : List UInt8) (hs : a.eval s = v) (hown : Own8 W B v xs) (g : Nat) (ys : List UInt8) (m c : Nat) (hx : a.eval x = .slice (some ⟨g, 0, none⟩) m c) (fz : Nat × Nat)
    (hm : ys.length = m) (cells : Array Value) (hc : cells = (ys.map byteV).toArray) (hg : W.heap[g]? = some (.cells cells 5 fz)) (hlim : xs.length + m ≤ 1000000000) (hB : B ≤ W.heap.size)
    (h : ∀ v' w', Own8 w' B v' (xs ++ ys) → Grew v W v' w' → K (a.put o.dst v') w') :
    if Region.wanted o (yielded ops a.tmps) = true then Oper.wp Tryz.prog o a W K Q else E := by
  have hw : Region.wanted o (yielded ops a.tmps) = true := by simp [Region.wanted, hgd]
  rw [if_pos hw]
  subst hm
  subst hc
  obtain ⟨v', w', hr, h2, h3⟩ := run_app8 (W := W) B o.type v xs hown g ys c fz hg hlim hB
  unfold Oper.wp execOp
  simp only [ho, resolve, invoke, builtin, Sem.run_bind, Sem.run_pure, Result.andThen_ok, List.map_toArray, List.map_cons, List.map_nil, hs, hx, hr]
  exact h v' w' h2 h3
end
/-- Bytes as a string. -/
theorem own8_conv {w : World} {B : Nat} {v : Value} {xs : List UInt8} (h : Own8 w B v xs) : (convert 144 9 v).run Tryz.prog w = .ok (.string ⟨xs.toArray⟩) w := by
  by_cases hx : 0 < xs.length
  · obtain ⟨g, c, rfl, hc⟩ := bytes_of_own h hx
    exact conv_row rfl hc
  · obtain rfl : xs = [] := List.eq_nil_of_length_eq_zero (by omega)
    obtain ⟨_, ⟨rfl, _⟩ | ⟨g, cap, cur, rfl, _⟩⟩ := h
    · kernel_rfl
    · exact conv_row rfl (fun k hk => by simp at hk)
end Go.Proofs.YtobpidmlgldnmaaGreatDoor

/-
  Bytes and texts: small laws that many walks share.
-/
namespace Go.Proofs.YtobpidmlgldnmaaGreatDoor
open Go.RowKit
set_option maxRecDepth 100000

def strLen : Value → Nat
  | .string t => t.size
  | _ => 0
theorem ext_list (t : ByteArray) (i j : Nat) : (t.extract i j).data.toList = (t.data.toList.drop i).take (j - i) := by
  rw [ByteArray.data_extract, Array.toList_extract, List.extract_eq_take_drop]
theorem ext_tail (t : ByteArray) (i : Nat) : (t.extract i t.size).data.toList = t.data.toList.drop i := by
  rw [ext_list, List.take_of_length_le (by simp)]
theorem ext_size (t : ByteArray) (i j : Nat) (hj : j ≤ t.size) : (t.extract i j).size = j - i := by
  rw [ByteArray.size_extract]; omega
theorem ba_len (t : ByteArray) : t.data.toList.length = t.size := by simp
theorem drop_all (s : ByteArray) (k : Nat) (h : s.size ≤ k) : s.data.toList.drop k = [] := List.drop_of_length_le (by simpa using h)
theorem beq_u8 (a b : UInt8) : ((a.toNat : Int) == (b.toNat : Int)) = (a == b) := by
  rw [Bool.eq_iff_iff, beq_iff_eq, beq_iff_eq]
  exact ⟨fun h => UInt8.toNat_inj.1 (by omega), fun h => by rw [h]⟩
theorem below_drewN {B : Nat} {a w : World} (h : Below B a w) (n : Nat) : Below B a (w.drewN n) := by
  induction n with
  | zero => exact h
  | succ n ih => exact ih.drew
theorem cons_of {t : ByteArray} (h : 0 < t.size) : ∃ r, t.data.toList = t[0] :: r := by
  refine ⟨t.data.toList.drop 1, ?_⟩
  rw [show t.data.toList = t.data.toList.drop 0 from rfl, List.drop_eq_getElem_cons (i := 0) (by simpa using h)]; rfl
theorem ba_nil {t : ByteArray} (h : t.size = 0) : t.data.toList = [] := List.eq_nil_of_length_eq_zero (by rw [ba_len]; exact h)
theorem own8_slice {w : World} {B : Nat} {v : Value} {xs : List UInt8} (h : Own8 w B v xs) : ∃ a c, v = .slice a xs.length c := by
  obtain ⟨_, ⟨rfl, h⟩ | ⟨g, cap, cur, rfl, _⟩⟩ := h
  · exact ⟨none, 0, by rw [show xs.length = 0 from h.symm ▸ rfl]⟩
  · exact ⟨_, _, rfl⟩
theorem hexTk_step (s : ByteArray) (k : Nat) (p : Option Nat) (b : List UInt8) (h : k < s.size) : hexTk (s.data.toList.drop k) p b k =
    if s[k] == 62 then (0, b ++ pend p, k + 1)
    else if isBl s[k] then hexTk (s.data.toList.drop (k + 1)) p b (k + 1)
    else if hexV s[k] < 0 then (4, [], 0)
    else match p with
      | some x => hexTk (s.data.toList.drop (k + 1)) none (b ++ [UInt8.ofNat (16 * x + (hexV s[k]).toNat)]) (k + 1)
      | none => hexTk (s.data.toList.drop (k + 1)) (some (hexV s[k]).toNat) b (k + 1) := by
  rw [List.drop_eq_getElem_cons (by simpa using h)]; rfl
theorem hexTk_end (s : ByteArray) (p : Option Nat) (b : List UInt8) (k : Nat) : hexTk (s.data.toList.drop s.size) p b k = (5, [], 0) := by
  rw [List.drop_of_length_le (by simp)]; rfl
theorem set_last {α : Type} (xs : List α) (x y : α) : (xs ++ [x]).set xs.length y = xs ++ [y] := by simp
/-- The last byte of a row is written anew. -/
theorem own8_last {w : World} {B : Nat} {v : Value} {xs : List UInt8} {x : UInt8} (h : Own8 w B v (xs ++ [x])) :
    ∃ g c, v = .slice (some ⟨g, 0, none⟩) (xs.length + 1) c ∧ B ≤ g ∧ g < w.heap.size ∧ w.cell? ⟨g, xs.length, none⟩ = some (.int .u8 (x.toNat : Int)) ∧ w.frozen? ⟨g, xs.length, none⟩ = false ∧ ∀ y : UInt8, Own8 (w.setCell ⟨g, xs.length, none⟩ (.int .u8 (y.toNat : Int))) B v (xs ++ [y]) := by
  have hl : (xs ++ [x]).length = xs.length + 1 := by simp
  unfold Own8 at h
  rw [hl] at h
  obtain ⟨g, c, rfl, _⟩ := bytes_of_own (d := xs ++ [x]) h (by omega)
  have hlt := World.ownsRow.lt h g rfl
  refine ⟨g, c, rfl, hlt.1, hlt.2, ?_, World.ownsRow.frozenAt h _, fun y => ?_⟩
  · rw [World.ownsRow.cellAt h _ (by omega)]
    simp [byteV]
  · have q := (World.ownsRow.stored h xs.length (.int .u8 (y.toNat : Int))).1
    unfold Own8
    rw [List.map_append, List.map_cons, List.map_nil] at q
    rw [show xs.length = (xs.map byteV).length by simp, set_last] at q
    rw [show (xs ++ [y]).length = xs.length + 1 by simp, List.map_append]
    simpa [byteV] using q
theorem or_nib (x d : Nat) (hx : x < 16) (hd : d < 16) : bits .or .u8 ((UInt8.ofNat (16 * x)).toNat : Int) (d : Int) = ((UInt8.ofNat (16 * x + d)).toNat : Int) := by
  have h : ∀ a b : Fin 16, bits .or .u8 ((UInt8.ofNat (16 * a.1)).toNat : Int) (b.1 : Int) = ((UInt8.ofNat (16 * a.1 + b.1)).toNat : Int) := by decide +kernel
  exact h ⟨x, hx⟩ ⟨d, hd⟩
def pbool (p : Option Nat) : Bool := p.isSome
theorem Own8.other {w : World} {B : Nat} {v : Value} {xs : List UInt8} (h : Own8 w B v xs) {b : Nat} {t : TypeId} {cs : Array Value} (hA : At w b t cs) (ht : t ≠ 5) (o : Nat) (u : Value) : Own8 (w.setCell ⟨b, o, none⟩ u) B v xs := by
  refine ownsRow_setCell_other h (fun e => ?_) u
  obtain ⟨c, fz, hc⟩ := own8_kind h b e
  have h2 := hA.symm.trans hc
  cases h2
  exact ht rfl
theorem Kept8.setNew {B : Nat} {a w : World} (h : Kept8 B a w) {b : Nat} (hb : a.heap.size ≤ b) (hB : B ≤ b) (o : Nat) (u : Value) : Kept8 B a (w.setCell ⟨b, o, none⟩ u) := by
  refine ⟨h.below.setCell (p := ⟨b, o, none⟩) hB u, fun k x hk hn hx => ?_⟩
  have h1 := h.others k x hk hn hx
  have hlt : k < a.heap.size := (Array.getElem?_eq_some_iff.1 hk).1
  rw [Below.heap_setCell _ _ _ _ (fun e => by
    have e' : b = k := by first | exact e | exact e.symm
    omega)]
  exact h1
end Go.Proofs.YtobpidmlgldnmaaGreatDoor
