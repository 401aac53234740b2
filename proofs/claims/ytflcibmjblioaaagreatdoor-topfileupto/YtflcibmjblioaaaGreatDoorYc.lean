/-
  Joined: Vh, Vd, Yc.
-/
import Derived.Test.YtflcibmjblioaaaGreatDoorVs
import Derived.Test.YtflcibmjblioaaaGreatDoorMh
import Derived.Deep.RegionWith
import Derived.Deep.CutRange
import Derived.Deep.CutBlock
import Derived.BigRegion
import Derived.Test.YtflcibmjblioaaaGreatDoorFe
import Derived.Test.YtflcibmjblioaaaGreatDoorShelf
import Derived.Test.YtflcibmjblioaaaGreatDoorAp
import Derived.Deep.RegionLaw
import Derived.Deep.DrawnRows

/-
  Aids for contracts over values: the cells of one, the block in which a call keeps one.
-/
namespace Go.Proofs.YtflcibmjblioaaaGreatDoor
open Go.RowKit
set_option maxRecDepth 100000

theorem RepN.inv {d : Nat} {w : World} {v : V} {cs : List Value} (h : RepN d w v cs) : ∃ e, d = e + 1 := by
  cases d with
  | zero => exact h.elim
  | succ e => exact ⟨e, rfl⟩
/-- The cells of a value, one by one. -/
theorem rep_cells {d : Nat} {w : World} {v : V} {cs : List Value} {b o : Nat} (h : RepN d w v cs) (hc : CellsAt w b o cs) :
    ∃ k n s al ll cl af lf cf, cs = [.int .i64 k, .int .i64 n, .string s, .slice al ll cl, .slice af lf cf] ∧ w.cell? ⟨b, o, none⟩ = some (.int .i64 k) ∧ w.cell? ⟨b, o + 1, none⟩ = some (.int .i64 n) ∧ w.cell? ⟨b, o + 2, none⟩ = some (.string s) ∧ w.cell? ⟨b, o + 3, none⟩ = some (.slice al ll cl) ∧ w.cell? ⟨b, o + 4, none⟩ = some (.slice af lf cf) := by
  obtain ⟨e, rfl⟩ := h.inv
  obtain ⟨al, af, cl, cf, rfl, _⟩ := h
  exact ⟨_, _, _, _, _, _, _, _, _, rfl, hc 0 _ rfl, hc 1 _ rfl, hc 2 _ rfl, hc 3 _ rfl, hc 4 _ rfl⟩
/-- The whole block of a value that a call has boxed. -/
abbrev BoxV (w : World) (b : Nat) (v : V) (al af : Option Addr) (cl cf : Nat) : Prop := At w b 40 #[.int .i64 v.k, .int .i64 v.n, .string v.s, .slice al v.l.length cl, .slice af v.f.length cf]

/-- The answer to a question. -/
def AnsB (e : Ending) (P : Prop) : Prop := (e = .returned (.bool true) ∧ P) ∨ (e = .returned (.bool false) ∧ ¬ P)
theorem AnsB.yes {P : Prop} {r : Bool} (h : P) (hr : r = true := by rfl) : AnsB (.returned (.bool r)) P := by subst hr; exact .inl ⟨rfl, h⟩
theorem AnsB.no {P : Prop} {r : Bool} (h : ¬ P) (hr : r = false := by rfl) : AnsB (.returned (.bool r)) P := by subst hr; exact .inr ⟨rfl, h⟩
theorem AnsB.of {P : Prop} {r : Bool} (h : r = true ↔ P) : AnsB (.returned (.bool r)) P := by
  cases r
  · exact .inr ⟨rfl, fun hp => by have := h.2 hp; cases this⟩
  · exact .inl ⟨rfl, h.1 rfl⟩
theorem AnsB.bool {P : Prop} {e : Ending} (h : AnsB e P) : ∃ r : Bool, e = .returned (.bool r) ∧ (r = true ↔ P) := by
  rcases h with ⟨h, hp⟩ | ⟨h, hp⟩
  · exact ⟨true, h, iff_of_true rfl hp⟩
  · exact ⟨false, h, iff_of_false (by simp) hp⟩
end Go.Proofs.YtflcibmjblioaaaGreatDoor

/-
  What may be: names, and values; the document's own answers about them (look only).
-/
namespace Go.Proofs.YtflcibmjblioaaaGreatDoor
open Go.RowKit
set_option maxRecDepth 100000

/-- May something be called so? -/
def nmOk (s : ByteArray) : Bool := decide (1 ≤ s.size) && decide (s.size ≤ 200) && !(s.data.toList.contains 0)
theorem nmOk_len {s : ByteArray} (h : s.size < 1 ∨ 200 < s.size) : nmOk s = false := by
  unfold nmOk
  rcases h with h | h
  · rw [decide_eq_false (p := 1 ≤ s.size) (by omega)]; rfl
  · rw [decide_eq_false (p := s.size ≤ 200) (by omega), Bool.and_false]; rfl

theorem vNameMay (s : ByteArray) (w : World) (hs : s.size ≤ maxLen) :
    Calls Tryz.prog 141 #[.string s] w fun e w' => e = .returned (.bool (nmOk s)) ∧ w' = w := by
  unfold maxLen at hs
  go_enter Tryz.func141, Tryz.ntmps141
  by_cases h1 : (1 : Int) ≤ s.size
  · by_cases h2 : (s.size : Int) ≤ 200
    · go_wp2_with (go_at_call 122; refine (Tryz.strings_IndexByte s 0 _).mono ?_; rintro e w1 ⟨rfl, rfl⟩)
      go_ret
      refine ⟨ret_bool ?_, rfl⟩
      rw [Bool.eq_iff_iff, decide_eq_true_iff, indexByte_neg]
      unfold nmOk
      rw [decide_eq_true (p := 1 ≤ s.size) (by omega), decide_eq_true (p := s.size ≤ 200) (by omega)]
      simp
    · go_wp2
      go_ret
      exact ⟨ret_bool (nmOk_len (by omega)).symm, rfl⟩
  · go_wp2
    go_ret
    exact ⟨ret_bool (nmOk_len (by omega)).symm, rfl⟩
end Go.Proofs.YtflcibmjblioaaaGreatDoor

/-
  The program's reader: names.
-/
namespace Go.Proofs.YtflcibmjblioaaaGreatDoor
open Go.RowKit
set_option maxRecDepth 100000

theorem Moved.below {P : Nat} {a b c : World} {s : ByteArray} {k : Nat} (h : Moved P a b s k) (hP : P < a.heap.size) (g : Below a.heap.size b c) : Moved P a c s k :=
  ⟨⟨g.os.trans h.keep.os, g.tape.trans h.keep.tape, g.output.trans h.keep.output, Nat.le_trans h.keep.size g.size, fun i hi hp => (g.block i hi).trans (h.keep.block i hi hp)⟩, (g.block P hP).trans h.at_⟩
theorem ext_one (t : ByteArray) (c : UInt8) (r : List UInt8) (h : t.data.toList = c :: r) : (t.extract 1 t.size).data.toList = r := by
  rw [ext_tail, h]; rfl
theorem ext_three (t : ByteArray) (c x y : UInt8) (r : List UInt8) (h : t.data.toList = c :: x :: y :: r) : (t.extract 3 t.size).data.toList = r := by
  rw [ext_tail, h]; rfl
/-- What name() reads. -/
def nameR (W : List UInt8) : Option (List UInt8) := (nameL W).bind fun b => if nmOk ⟨b.toArray⟩ then some b else none
def nameOut : Option (List UInt8) → Value
  | none => .tuple #[.string ⟨#[]⟩, .iface 50 (.int .i64 4)]
  | some b => .tuple #[.string ⟨b.toArray⟩, .nilIface]
theorem nameR_none {W : List UInt8} (h : nameL W = none) : nameR W = none := by unfold nameR; rw [h]; rfl
theorem yPairSome (t : ByteArray) (c : UInt8) (w : World) (ht : t.size ≤ 100000) (h : pairL t.data.toList = some c) :
    Calls Tryz.prog 140 #[.string t] w fun e w' => e = .returned (.tuple #[.int .u8 (c.toNat : Int), .bool true]) ∧ w' = w := by
  have q := yPair t w ht; rw [h] at q; exact q
theorem yPairNone (t : ByteArray) (w : World) (ht : t.size ≤ 100000) (h : pairL t.data.toList = none) :
    Calls Tryz.prog 140 #[.string t] w fun e w' => e = .returned (.tuple #[.int .u8 0, .bool false]) ∧ w' = w := by
  have q := yPair t w ht; rw [h] at q; exact q
theorem map_pre (o : Option (List UInt8)) (pre : List UInt8) (c : UInt8) : (o.map (c :: ·)).map (pre ++ ·) = o.map ((pre ++ [c]) ++ ·) := by
  cases o <;> simp
set_option maxHeartbeats 2000000 in
theorem yName (P : Nat) (s : ByteArray) (k : Nat) (w : World) (hR : RdAt w P s k) (hk : k < s.size) (h47 : s[k] = 47) (hs : s.size ≤ 100000) :
    Calls Tryz.prog 89 #[.pointer (some ⟨P, 0, none⟩)] w fun e w' => e = .returned (nameOut (nameR (wordP s (k + 1)).data.toList)) ∧ Moved P w w' s (k + 1 + (wordP s (k + 1)).size) := by
  have hPl : P < w.heap.size := At.lt hR
  have HB := hid (show Lib.hasPrefix (s.data.toList.drop k) [47] = true by
    rw [List.drop_eq_getElem_cons (by simpa using hk)]
    show List.isPrefixOf [47] (s[k] :: _) = true
    rw [h47]; simp [List.isPrefixOf])
  have hz := wordP_size (s := s) (k := k + 1) (by omega)
  have HW := hid (fun (w : World) (h : RdAt w P s (k + 1)) => yWord P s (k + 1) w h (by omega) hs)
  generalize hWW : wordP s (k + 1) = ww at *
  clear hWW h47
  have hzz := hz.2
  clear hz
  go_enter Tryz.func89, Tryz.ntmps89
  go_wp2_with (first
    | (go_at_call 88; refine (yAheadB P s _ k true _ hR (by omega) HB.out).mono ?_; rintro e w1 ⟨rfl, hm⟩; have c1 := hm.at_.c1; have f1 := At.free hm.at_ 1)
    | (go_at_call 139; go_must (refine (HW.out _ (hm.set (j := k + 1) (by omega)).at_).mono ?_); rintro e w2 ⟨rfl, hm2⟩))
  have hm3 := (hm.set (i := (k : Int) + 1) (j := k + 1) (by omega)).trans hm2
  clear hm hm2 c1 f1 HW
  go_loopw [4, 5] (fun tv bv wr => ∃ (t : ByteArray) (pre : List UInt8), tv = .string t ∧ pre.length + t.size ≤ ww.size ∧ (nameL t.data.toList).map (pre ++ ·) = nameL ww.data.toList ∧ Own8 wr w.heap.size bv pre ∧ w.heap.size ≤ wr.heap.size ∧ Moved P w wr s (k + 1 + ww.size)) (fun tv _ _ => strLen tv)
  case atStart => exact ⟨ww, [], rfl, by simp, by simp, Own8.nil _ _, hm3.keep.size, hm3⟩
  case round =>
    clear hm3
    obtain ⟨t, pre, rfl, htl, hN, hown, hbs, hm⟩ := hrel
    have HN := hid hN
    clear hN
    by_cases h0 : 0 < t.size
    · have h0' : (0 : Int) < t.size := by omega
      obtain ⟨r, hr⟩ := cons_of h0
      have hc := t[0].toNat_lt
      by_cases h35 : t[0] = 35
      · have q35 : (t[0].toNat : Int) = 35 := by rw [h35]; rfl
        have HX := hid (ext_one t _ r hr)
        cases hp : pairL r with
        | none =>
          have HNO := hid (show nameL ww.data.toList = none by
            rw [← HN.out, hr, h35]
            match r, hp with
            | [], _ => rw [nameL_short1]; rfl
            | [x], _ => rw [nameL_short2]; rfl
            | x :: y :: r', hp =>
              rw [pairL_cons] at hp
              rw [nameL_pair]
              by_cases e : hexV x < 0 ∨ hexV y < 0
              · rw [if_pos e]; rfl
              · rw [if_neg e] at hp; cases hp)
          have HPN := hid (fun (w : World) => yPairNone (t.extract 1 t.size) w (by rw [ext_size _ _ _ (Nat.le_refl _)]; omega) (by rw [HX.out]; exact hp))
          clear hr h35 HX
          go_wp2_with (go_at_call 140; go_must (refine (HPN.out _).mono ?_); rintro e w1 ⟨rfl, rfl⟩)
          go_ret2
          refine ⟨?_, hm⟩
          rw [nameR_none HNO.out]; rfl
        | some c =>
          obtain ⟨x, y, r', rfl, hcc⟩ : ∃ x y r', r = x :: y :: r' ∧ ∀ o : Option (List UInt8), (nameL (35 :: x :: y :: r')).map (pre ++ ·) = (nameL r').map ((pre ++ [c]) ++ ·) := by
            match r, hp with
            | [], hp => cases hp
            | [x], hp => cases hp
            | x :: y :: r', hp =>
              refine ⟨x, y, r', rfl, fun _ => ?_⟩
              rw [pairL_cons] at hp
              rw [nameL_pair]
              by_cases e : hexV x < 0 ∨ hexV y < 0
              · rw [if_pos e] at hp; cases hp
              · rw [if_neg e] at hp ⊢
                cases hp
                exact map_pre _ _ _
          have HPS := hid (fun (w : World) => yPairSome (t.extract 1 t.size) c w (by rw [ext_size _ _ _ (Nat.le_refl _)]; omega) (by rw [HX.out]; exact hp))
          have HX3 := hid (ext_three t _ x y r' hr)
          have HZ3 := hid (ext_size t 3 t.size (Nat.le_refl _))
          have HNX := hid (show (nameL r').map ((pre ++ [c]) ++ ·) = nameL ww.data.toList by rw [← HN.out, hr, h35]; exact (hcc none).symm)
          have h3 : (3 : Int) ≤ t.size := by
            have : t.data.toList.length = r'.length + 3 := by rw [hr]; rfl
            rw [ba_len] at this; omega
          have hc2 := c.toNat_lt
          clear hr h35 HX hp hcc
          go_wp2_with (go_at_call 140; go_must (refine (HPS.out _).mono ?_); rintro e w1 ⟨rfl, rfl⟩)
          go_region_law ((refine stepApp8g (by rfl) (.tmp 39) (.tmp 41) (by rfl) w.heap.size _ pre (by rfl) (by exact hown.alloc _) w1.heap.size [c] 1 1 (by rfl) (0, 0) (by rfl) _ (by rfl) (by exact heap_alloc_new _ _) (by simp; omega) (by simp; omega) ?_; intro v2 w2 hown2 hk2))
          all_goals
            have hk3 := hk2.undrew.unalloc.kept hown hbs
            have hm2 := hm.below hPl hk3.below
            have hs2 := Nat.le_trans hbs hk3.size
            clear hown hk2 hm
            go_simp
            go_wp2
            go_roundw
            case rel =>
              refine ⟨_, pre ++ [c], rfl, ?_, ?_, hown2, hs2, hm2⟩
              · rw [HZ3.out, List.length_append]; simp; omega
              · rw [HX3.out]; exact HNX.out
            case measure => have := HZ3.out; simp only [strLen]; omega
      · have q35 : ((t[0].toNat : Int) == 35) = false := by rw [show (35 : Int) = ((35 : UInt8).toNat : Int) from rfl, beq_u8]; simpa using h35
        have HX1 := hid (ext_one t _ r hr)
        have HZ1 := hid (ext_size t 1 t.size (Nat.le_refl _))
        have HNX := hid (show (nameL r).map ((pre ++ [t[0]]) ++ ·) = nameL ww.data.toList by
          rw [← HN.out, hr, nameL_plain (by simpa using h35)]; exact (map_pre _ _ _).symm)
        have h1' : (1 : Int) ≤ t.size := by omega
        clear hr h35
        go_wp2_with fail
        go_region_law ((refine stepApp8g (by rfl) (.tmp 39) (.tmp 41) (by rfl) w.heap.size _ pre (by rfl) (by exact hown.alloc _) wr.heap.size [t[0]] 1 1 (by rfl) (0, 0) (by rfl) _ (by rfl) (by exact heap_alloc_new _ _) (by simp; omega) (by simp; omega) ?_; intro v2 w2 hown2 hk2))
        all_goals
          have hk3 := hk2.undrew.unalloc.kept hown hbs
          have hm2 := hm.below hPl hk3.below
          have hs2 := Nat.le_trans hbs hk3.size
          clear hown hk2 hm
          go_simp
          go_wp2
          go_roundw
          case rel =>
            refine ⟨_, pre ++ [t[0]], rfl, ?_, ?_, hown2, hs2, hm2⟩
            · rw [HZ1.out, List.length_append]; simp; omega
            · rw [HX1.out]; exact HNX.out
          case measure => have := HZ1.out; simp only [strLen]; omega
    · have hz : t.size = 0 := by omega
      have HF := hid (show nameL ww.data.toList = some pre by
        rw [← HN.out, ba_nil hz, nameL_nil]; simp)
      have hcv := own8_conv hown
      have HMay := hid (fun (w : World) => vNameMay ⟨pre.toArray⟩ w (by rw [show (⟨pre.toArray⟩ : ByteArray).size = pre.length by simp [ByteArray.size]]; unfold maxLen; omega))
      cases hok : nmOk ⟨pre.toArray⟩
      · have HR0 := hid (show nameR ww.data.toList = none by unfold nameR; rw [HF.out]; show (if nmOk ⟨pre.toArray⟩ = true then _ else _) = _; rw [hok]; rfl)
        rw [hok] at HMay
        go_wp2_with (go_at_call 141; refine (HMay.out _).mono ?_; rintro e w1 ⟨rfl, rfl⟩)
        go_ret2
        exact ⟨by rw [HR0.out]; rfl, hm⟩
      · have HR0 := hid (show nameR ww.data.toList = some pre by unfold nameR; rw [HF.out]; show (if nmOk ⟨pre.toArray⟩ = true then _ else _) = _; rw [hok]; rfl)
        rw [hok] at HMay
        go_wp2_with (go_at_call 141; refine (HMay.out _).mono ?_; rintro e w1 ⟨rfl, rfl⟩)
        go_ret2
        exact ⟨by rw [HR0.out]; rfl, hm⟩
end Go.Proofs.YtflcibmjblioaaaGreatDoor
