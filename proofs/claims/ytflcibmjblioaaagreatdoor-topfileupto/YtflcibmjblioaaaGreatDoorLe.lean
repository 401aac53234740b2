/-
  Joined: Kg, Km, Le.
-/
import Derived.Test.YtflcibmjblioaaaGreatDoorKf
import Derived.Test.YtflcibmjblioaaaGreatDoorShelf
import Derived.Test.YtflcibmjblioaaaGreatDoorAp
import Derived.Test.YtflcibmjblioaaaGreatDoorPa
import Derived.Maps.RangeWalk
import Derived.Maps.AppendAt
import Derived.LoopN
import Derived.Sort.OwnSortedInts
import Derived.Maps.Views
import Derived.Maps.OwnSet

/-
  Lines (file.lines).
-/
namespace Go.Proofs.YtflcibmjblioaaaGreatDoor
open Go.RowKit
set_option maxRecDepth 100000

/-- string +, of texts that a file may hold. -/
theorem addF {a b c : ByteArray} (ha : a.size ≤ 100000000) (hb : b.size ≤ 100000000) (hc : c.data.toList = a.data.toList ++ b.data.toList) (w : World) : (Op.stringOp .add a b).run Tryz.prog w = .ok (.string c) w := by
  have e : a ++ b = c := by
    apply ByteArray.ext
    apply Array.toList_inj.1
    rw [hc]
    simp
  subst e
  simp [Op.stringOp]
  omega
/-- Lines, as bytes. -/
def linesL (xs : List (List UInt8)) : List UInt8 := Lib.join xs [10] ++ [10]
set_option maxHeartbeats 1000000 in
theorem lines_says (bk o c : Nat) (xs : List ByteArray) (w : World) (hcells : ∀ (j : Nat) x, xs[j]? = some x → w.cell? ⟨bk, o + j, none⟩ = some (.string x)) (hbk : bk < w.heap.size) (hN : xs.length ≤ 1000) (hcap : xs.length ≤ c) (hlen : (Lib.join (xs.map (·.data.toList)) [10]).length ≤ 100000000) :
    Calls Tryz.prog 39 #[.slice (some ⟨bk, o, none⟩) xs.length c] w fun e w' => e = .returned (.string ⟨(linesL (xs.map (·.data.toList))).toArray⟩) ∧ Below w.heap.size w w' := by
  have HJ := hid (Tryz.strings_Join bk o c xs ⟨#[10]⟩ w hcells hbk (by omega) hcap (by simpa using Nat.le_trans hlen (by decide)))
  obtain ⟨J, hJ⟩ : ∃ J : ByteArray, (⟨(Lib.join (xs.map (·.data.toList)) [10]).toArray⟩ : ByteArray) = J := ⟨_, rfl⟩
  have hs : J.size ≤ 100000000 := by rw [← hJ]; simpa [ByteArray.size] using hlen
  have hadd := fun W => addF (a := J) (b := ⟨#[10]⟩) (c := ⟨(linesL (xs.map (·.data.toList))).toArray⟩) hs (by decide) (by rw [← hJ]; simp [linesL]) W
  clear hcells hlen hcap
  go_enter Tryz.func39, Tryz.ntmps39
  go_wp2_with (go_at_call 65; fail)
  go_at_call 65
  refine HJ.out.mono ?_
  rintro e w1 ⟨rfl, B1⟩
  simp only [hJ]
  go_wp2
  go_ret
  exact ⟨rfl, B1⟩
end Go.Proofs.YtflcibmjblioaaaGreatDoor

/-
  The numbers of objects that are there (file.numbers).
-/
namespace Go.Proofs.YtflcibmjblioaaaGreatDoor
open Go.RowKit Go.Maps Go.Sort
set_option maxRecDepth 100000

theorem lawZ : Keyed Tryz.prog 3 := int_keyed Tryz.underlying3
theorem infoZ : (Tryz.prog.info? 3).map (fun i => (i.zero, i.size, i.bytes)) = some (some (.int .i64 0), 1, 8) := by kernel_rfl
/-- Numbers that a call owns. -/
def OwnZ (w : World) (B : Nat) (v : Value) (zs : List Int) : Prop := w.ownsRow B 3 1 v zs.length (zs.map (Value.int .i64))
theorem ownZ_form {w : World} {B : Nat} {T : TypeId} {z : Nat} {t : Value} {n : Nat} {xs : List Value} (h : w.ownsRow B T z t n xs) : ∃ a c, t = .slice a n c := by
  rcases h.2 with ⟨rfl, h0⟩ | ⟨g, cap, cur, rfl, _⟩
  · exact ⟨none, 0, by rw [h0]⟩
  · exact ⟨_, cap, rfl⟩
/-- A number whose place is told, not below nought. -/
def There {H : Type} (D : DataW H) (x : Int) : Prop := ∃ c : Int, (∀ zd, D.atKey (.int .i64 x) zd = .lit (.int .i64 c)) ∧ 0 ≤ c
/-- No number twice; a number is on the list just where it is there and no longer to come. -/
def ColZ {H : Type} (D : DataW H) (left : Lit → Bool) (zs : List Int) : Prop := zs.Nodup ∧ ∀ x, x ∈ zs ↔ (There D x ∧ left (.int .i64 x) = false)
theorem ColZ.start {H : Type} (D : DataW H) : ColZ D (has D) [] := ⟨List.nodup_nil, fun x => by
  constructor
  · intro h; simp at h
  · rintro ⟨⟨c, hc, _⟩, hl⟩
    have := has_true_of_atKey hc
    rw [hl] at this; cases this⟩
theorem lit_eq {H : Type} {a b : Int} (h : (DataW.lit (.int .i64 a) : DataW H) = .lit (.int .i64 b)) : a = b := by
  injection h with h; injection h with _ h
theorem ColZ.step {H : Type} {D : DataW H} {left : Lit → Bool} {zs : List Int} (h : ColZ D left zs) {x c : Int} (hlk : left (.int .i64 x) = true) (hat : ∀ zd, D.atKey (.int .i64 x) zd = .lit (.int .i64 c)) (hc : 0 ≤ c) : ColZ D (fun z => left z && !z.sameKey (.int .i64 x)) (zs ++ [x]) := by
  have hnew : x ∉ zs := fun hx => by have := ((h.2 x).1 hx).2; rw [hlk] at this; cases this
  refine ⟨List.nodup_append.2 ⟨h.1, by simp, fun a ha b hb => by simp at hb; subst hb; exact fun e => hnew (e ▸ ha)⟩, fun y => ?_⟩
  by_cases hy : y = x
  · subst hy
    have ht : There D y := ⟨c, hat, hc⟩
    simp [ht, Lit.sameKey]
  · simp [h.2 y, hy, Lit.sameKey]
theorem ColZ.pass {H : Type} {D : DataW H} {left : Lit → Bool} {zs : List Int} (h : ColZ D left zs) {x c : Int} (hat : ∀ zd, D.atKey (.int .i64 x) zd = .lit (.int .i64 c)) (hc : ¬ 0 ≤ c) : ColZ D (fun z => left z && !z.sameKey (.int .i64 x)) zs := by
  refine ⟨h.1, fun y => ?_⟩
  by_cases hy : y = x
  · subst hy
    have hn : ¬ There D y := fun ⟨c', hc', h0⟩ => by
      have := (hat (.lit (.int .i64 0))).symm.trans (hc' (.lit (.int .i64 0)))
      have := lit_eq this
      omega
    simp [h.2 y, hn]
  · simp [h.2 y, hy, Lit.sameKey]
set_option maxHeartbeats 2000000 in
theorem numbers_says {H : Type} (b n : Nat) (D : DataW H) (w : World) (hown : w.ownsMap Tryz.prog 3 (plainElem Tryz.prog 3) b n D) (hn : n ≤ 100000) :
    Calls Tryz.prog 23 #[.map (some b)] w fun e w' => (∃ (t : Value) (zs : List Int), e = .returned t ∧ OwnZ w' (w.heap.size + 1) t (zs.mergeSort fun x y => decide (x ≤ y)) ∧ zs.Nodup ∧ ∀ x, x ∈ zs ↔ There D x) ∧ Below w.heap.size w w' := by
  obtain ⟨iV, hiV, hv0, hv1, hv2⟩ := info_parts infoZ
  have hbl := hown.lt
  go_enter Tryz.func23, Tryz.ntmps23
  go_wp2_with (first | (at_range; refine wpList_range_own _ rfl _ 59 rfl 3 3 lawZ Tryz.underlying59 _ b n _ rfl hown ?_; intro w2 hrg2 hg2 hs2) | go_in)
  go_frame
  go_loopw [3] (fun t wr => ∃ (left : Lit → Bool) (cnt : Nat) (zs : List Int), wr.ranges Tryz.prog 3 (plainElem Tryz.prog 3) b w.heap.size n D left cnt ∧ OwnZ wr (w.heap.size + 1) t zs ∧ w.heap.size + 1 ≤ wr.heap.size ∧ zs.length + cnt ≤ 100000 ∧ Below w.heap.size w wr ∧ Hid (ColZ D left zs)) (fun _ wr => wr.rangeLeft b w.heap.size)
  case atStart =>
    refine ⟨_, _, [], hrg2, World.ownsRow_nil _ _ _ _, by omega, ?_, (Below.refl _ _).grown hg2 (Nat.le_refl _) (fun k h => by cases h), hid (ColZ.start D)⟩
    have := hown.size_le
    simp; omega
  case round =>
    obtain ⟨left, cnt, zs, hrg, hO, hz, hlen, hB, HC⟩ := hrel
    obtain ⟨a0, c0, rfl⟩ : ∃ a c, u3 = Value.slice a zs.length c := by
      rcases hO.2 with ⟨e, h0⟩ | ⟨g, cap, cur, e, _⟩
      · exact ⟨none, 0, by rw [e, h0]⟩
      · exact ⟨_, cap, e⟩
    go_wp2_with (first | (at_next; refine wpList_next_ranges_ii _ rfl _ rfl 3 3 .i64 .i64 lawZ Tryz.underlying3 Tryz.underlying3 b w.heap.size n _ _ _ rfl hrg ?_ ?_) | go_in)
    · intro _ hall
      have HM := hid (show zs.Nodup ∧ ∀ x, x ∈ zs ↔ There D x from ⟨HC.out.1, fun x => by rw [HC.out.2 x, hall]; simp⟩)
      clear hrg
      by_cases h0 : zs.length = 0
      · have hzs : zs = [] := List.eq_nil_of_length_eq_zero h0
        subst hzs
        simp only [List.length_nil] at *
        have hsrt := fun (w : World) => Tryz.slices_Sort_int_none a0 c0 w
        go_wp2_with (go_at_call 52; go_must (refine (hsrt _).mono ?_); rintro e w5 ⟨rfl, hw5⟩; rw [hw5]; clear hw5 w5)
        go_ret
        exact ⟨⟨_, [], rfl, by simpa [OwnZ] using hO, HM.out⟩, hB⟩
      · obtain ⟨g, cap, cur, e1, hg1, hg2', hc1, hc2, hc3, hc4⟩ : ∃ g cap cur, Value.slice a0 zs.length c0 = .slice (some ⟨g, 0, none⟩) zs.length cap ∧ w.heap.size + 1 ≤ g ∧ wr.heap[g]? = some (.cells cur 3 (0, 0)) ∧ zs.length ≤ cap ∧ cap ≤ maxLen ∧ cur.size = cap * 1 ∧ cur.toList.take (zs.length * 1) = zs.map (Value.int .i64) := by
          rcases hO.2 with ⟨_, hz0⟩ | ⟨g, cap, cur, hv, r⟩
          · exact absurd hz0 h0
          · exact ⟨g, cap, cur, hv, r⟩
        injection e1 with e1 _ e2
        subst e1 e2
        have hsrt := hid (Tryz.slices_Sort_int g 0 c0 zs wr (holds_of_blockI hg2' (by rw [Nat.mul_one] at hc4; exact hc4)) (Array.getElem?_eq_some_iff.1 hg2').1 (by omega))
        go_wp2_with (go_at_call 52; go_must (refine hsrt.out.mono ?_); rintro e w5 ⟨rfl, kk, oo, hw5⟩)
        go_ret
        have hlm : (zs.mergeSort fun x y => decide (x ≤ y)).length = zs.length := List.length_mergeSort _
        refine ⟨⟨_, zs, rfl, ?_, HM.out⟩, ?_⟩
        · unfold OwnZ
          rw [hlm]
          exact ownsRow_sortedI hlm hg1 hg2' hc1 hc2 hc3
        · exact hB.grown (grownBy_sortedI _) (by omega) (fun k hk => by cases hk; omega)
    · intro x c w3 cnt3 hwx hwc hlx hat hrg3 hlt hg3 hs3 hen
      have hO3 : w3.ownsRow (w.heap.size + 1) 3 1 (.slice a0 zs.length c0) zs.length (zs.map (Value.int .i64)) := World.ownsRow.kept hO hg3 (.inr fun e => by have := (World.ownsRow.lt hO _ e).1; omega)
      have hB3 : Below w.heap.size w w3 := hB.grown hg3 (by omega) (fun k hk => by cases hk; exact Nat.le_refl _)
      have hz3 : w.heap.size + 1 ≤ w3.heap.size := by omega
      clear hs3
      by_cases hc : 0 ≤ c
      · have HC2 := hid (HC.out.step hlx hat hc)
        go_wp2_with (at_builtin; go_loud (refine wpList_append_own_at _ rfl (.tmp 15) (.tmp 17) 32 rfl (w.heap.size + 1) 3 iV _ 1 8 Tryz.underlying32 hiV hv0 hv1 hv2 rfl (by decide) _ _ _ rfl (hO3.alloc _) ⟨w3.heap.size, 0, none⟩ 1 1 [.int .i64 x] rfl rfl (fun i u hi => one_new rfl i u hi) (by simp [Value.oneCell']) (by unfold maxLen; omega) (by omega) (by simp; omega) ?_); intro v' w4 hown4 hg4 _ _; obtain ⟨a4, c4, e4⟩ : ∃ a c, v' = Value.slice a (zs.length + 1) c := (ownZ_form hown4); subst e4)
        have hrg4 := (hrg3.alloc (.cells #[.int .i64 x] 3)).kept hg4 (fun e => by have := (hO3.lt _ e.symm).1; omega) (fun e => by have := (hO3.lt _ e.symm).1; omega)
        have hB4 : Below w.heap.size w w4 := (hB3.alloc hB3.size _).grown hg4 (by simp; omega) (fun k hk => by have := (hO3.lt k hk).1; omega)
        refine ⟨⟨_, cnt3, zs ++ [x], hrg4, ?_, ?_, by simp; omega, hB4, HC2⟩, ?_⟩
        · unfold OwnZ; rw [List.length_append, List.map_append]; exact hown4
        · have := hg4.size; simp at this; omega
        · rw [hrg4.left_eq, hrg.left_eq]; exact hlt
      · have HC2 := hid (HC.out.pass hat hc)
        go_wp2_with fail
        refine ⟨⟨_, cnt3, zs, hrg3, hO3, by omega, by omega, hB3, HC2⟩, ?_⟩
        rw [hrg3.left_eq, hrg.left_eq]; exact hlt
end Go.Proofs.YtflcibmjblioaaaGreatDoor

/-
  Where objects stand: a map of numbers, plainly.
-/
namespace Go.Proofs.YtflcibmjblioaaaGreatDoor
open Go.RowKit Go.Lib Go.Maps
set_option maxRecDepth 1000000

/-- A file that was read. -/
abbrev FileAt (w : World) (P : Nat) (s : ByteArray) (mp : Value) (tb : Int) (c0 c1 c2 c3 c4 : Value) : Prop := At w P 61 #[.string s, mp, .int .i64 tb, c0, c1, c2, c3, c4]
/-- A map of numbers of a call's own. -/
def MapZ (w : World) (b n : Nat) (m : Int → Option Int) : Prop := ∃ D : DataW Unit, w.ownsMap Tryz.prog 3 (plainElem Tryz.prog 3) b n D ∧ IsMap D ∧ ∀ x, (m x = none → has D (.int .i64 x) = false ∧ ∀ zd, D.atKey (.int .i64 x) zd = zd) ∧ ∀ c, m x = some c → has D (.int .i64 x) = true ∧ ∀ zd, D.atKey (.int .i64 x) zd = .lit (.int .i64 c)
theorem MapZ.lt {w : World} {b n : Nat} {m : Int → Option Int} (h : MapZ w b n m) : b < w.heap.size := by obtain ⟨D, h, _⟩ := h; exact h.lt
theorem MapZ.kept {w w' : World} {b n : Nat} {m : Int → Option Int} {row : Option Nat} (h : MapZ w b n m) (hg : w.grownBy w' row) (hne : some b ≠ row) : MapZ w' b n m := by
  obtain ⟨D, h1, h2⟩ := h
  exact ⟨D, h1.kept hg hne, h2⟩
theorem MapZ.later {w w' : World} {b n : Nat} {m : Int → Option Int} (h : MapZ w b n m) (hb : Below w.heap.size w w') : MapZ w' b n m := h.kept (row := none) ⟨hb.os, hb.tape, hb.output, hb.size, fun k hk _ => hb.block k hk⟩ (by simp)
theorem MapZ.but {w w' : World} {b n P : Nat} {m : Int → Option Int} (h : MapZ w b n m) (hk : KeepBut P w w') (hne : b ≠ P) : MapZ w' b n m := h.kept (row := some P) ⟨hk.os, hk.tape, hk.output, hk.size, fun k hl hn => hk.block k hl (fun e => hn (by rw [e]))⟩ (fun e => hne (by injection e))
theorem MapZ.new (w : World) : MapZ (w.alloc (.map #[] 0)) w.heap.size 0 (fun _ => none) :=
  ⟨.map [], World.ownsMap_made _ _ _ _, ⟨[], rfl⟩, fun x => ⟨fun _ => ⟨rfl, fun _ => rfl⟩, fun c h => by cases h⟩⟩
theorem small_wf {x : Int} (h : -1000000000000 ≤ x ∧ x ≤ 1000000000000) : (Lit.int .i64 x).wf = true := by
  show (decide (IntKind.i64.min ≤ x) && decide (x ≤ IntKind.i64.max)) = true
  rw [show IntKind.i64.min = -9223372036854775808 by decide, show IntKind.i64.max = 9223372036854775807 by decide]
  simp only [Bool.and_eq_true, decide_eq_true_eq]
  omega
theorem key_z {x : Int} (h : -1000000000000 ≤ x ∧ x ≤ 1000000000000) : keyOf Tryz.prog 3 (.int .i64 x) = some (.int .i64 x) := keyOf_int_mk Tryz.underlying3 (small_wf h)
theorem elem_z {x : Int} (h : -1000000000000 ≤ x ∧ x ≤ 1000000000000) : (plainElem Tryz.prog 3 (.int .i64 x) : Option (DataW Unit × List MemPlace)) = some (.lit (.int .i64 x), []) := by
  have := small_wf h
  simp [plainElem, Tryz.underlying3, this]
theorem elem_val {v : Value} {c : Int} {ps : List MemPlace} (h : (plainElem Tryz.prog 3 v : Option (DataW Unit × List MemPlace)) = some (.lit (.int .i64 c), ps)) : v = .int .i64 c := by
  unfold plainElem at h
  rw [Tryz.underlying3] at h
  cases v <;> simp at h
  obtain ⟨⟨rfl, _⟩, h2, _⟩ := h
  rw [h2]
theorem MapZ.look {w : World} {b n : Nat} {m : Int → Option Int} (h : MapZ w b n m) {x : Int} (hx : -1000000000000 ≤ x ∧ x ≤ 1000000000000) : (Instr.lookup 59 (.map (some b)) (.int .i64 x) true).run Tryz.prog w = .ok (.tuple #[.int .i64 ((m x).getD 0), .bool (m x).isSome]) w := by
  obtain ⟨D, h1, h2, h3⟩ := h
  obtain ⟨i, hi, z0, z1, z2⟩ := info_parts infoZ
  obtain ⟨v, ps, hr, hv⟩ := h1.look_ok lawZ Tryz.underlying59 (z := .int .i64 0) (by simp [zeroValue, typeInfo, hi, z0]) (elem_z (x := 0) (by omega)) (key_z hx)
  rw [hr]
  cases e : m x with
  | none =>
    obtain ⟨q1, q2⟩ := (h3 x).1 e
    rw [q2] at hv
    rw [elem_val hv, q1]
    rfl
  | some c =>
    obtain ⟨q1, q2⟩ := (h3 x).2 c e
    rw [q2] at hv
    rw [elem_val hv, q1]
    rfl
/-- One more place. -/
def putZ (m : Int → Option Int) (x c : Int) : Int → Option Int := fun y => if y = x then some c else m y
theorem MapZ.put {w : World} {b n : Nat} {m : Int → Option Int} (h : MapZ w b n m) {x c : Int} (hx : -1000000000000 ≤ x ∧ x ≤ 1000000000000) (hc : -1000000000000 ≤ c ∧ c ≤ 1000000000000) (hn : n < 1000000) : ∃ w', (Instr.mapUpdate 59 (.map (some b)) (.int .i64 x) (.int .i64 c)).run Tryz.prog w = .ok () w' ∧ MapZ w' b (n + 1) (putZ m x c) ∧ w.grownBy w' (some b) := by
  obtain ⟨D, h1, h2, h3⟩ := h
  obtain ⟨w', hr, r1, r2⟩ := h1.update lawZ Tryz.underlying59 (by unfold maxLen; omega) (key_z hx) (elem_z hc)
  have hkl : WideAt.IsKeyLit (.int .i64 x) := by trivial
  refine ⟨w', hr, ⟨_, r1, ?_, fun y => ?_⟩, r2⟩
  · obtain ⟨es, rfl⟩ := h2
    exact ⟨_, rfl⟩
  · unfold putZ
    by_cases e : y = x
    · subst e
      rw [if_pos rfl]
      refine ⟨(fun q => by cases q), fun c' q => ?_⟩
      injection q with q
      subst q
      exact ⟨has_put_same h2 hkl _, fun zd => atKey_put_same h2 hkl _ _⟩
    · rw [if_neg e]
      have hne : (Lit.int .i64 y) ≠ .int .i64 x := fun q => by injection q with _ q; exact e q
      refine ⟨fun q => ?_, fun c' q => ?_⟩
      · obtain ⟨q1, q2⟩ := (h3 y).1 q
        exact ⟨by rw [has_put_other hne]; exact q1, fun zd => by rw [atKey_put_other hne]; exact q2 zd⟩
      · obtain ⟨q1, q2⟩ := (h3 y).2 c' q
        exact ⟨by rw [has_put_other hne]; exact q1, fun zd => by rw [atKey_put_other hne]; exact q2 zd⟩
end Go.Proofs.YtflcibmjblioaaaGreatDoor
