/-
  Joined: Gd, Ge, Gh.
-/
import Derived.Test.YtobpidmlgldnmaaGreatDoorGc
import Derived.Test.YtobpidmlgldnmaaGreatDoorCe
import Derived.Lib.SlTrimSet
import Derived.Test.YtobpidmlgldnmaaGreatDoorCp
import Derived.Maps.StringElems
import Derived.WideKeyElems2
import Derived.Laws.IdiomRangeMap

/-
  What a name of a sign stands for: the program's answer.
-/
namespace Go.Proofs.YtobpidmlgldnmaaGreatDoor
open Go.RowKit Go.WideMaps Go.Maps
set_option maxRecDepth 100000
attribute [local go_sem ↓] Go.wp_at_zero Go.wp_at_succ

def isLt (c : UInt8) : Bool := (decide (97 ≤ c.toNat) && decide (c.toNat ≤ 122)) || (decide (65 ≤ c.toNat) && decide (c.toNat ≤ 90))
def isHx (c : UInt8) : Bool := (decide (48 ≤ c.toNat) && decide (c.toNat ≤ 57)) || (decide (65 ≤ c.toNat) && decide (c.toNat ≤ 70))
def hv (c : UInt8) : Nat := if c.toNat < 58 then c.toNat - 48 else c.toNat - 55
def hxS : List UInt8 := [48, 49, 50, 51, 52, 53, 54, 55, 56, 57, 65, 66, 67, 68, 69, 70]
theorem all8 {p : UInt8 → Prop} (h : ∀ x : Fin 256, p (UInt8.ofNat x.1)) (c : UInt8) : p c := by
  have q := h ⟨c.toNat, c.toNat_lt⟩
  have e : UInt8.ofNat c.toNat = c := by simp
  rwa [e] at q
theorem hx_set (c : UInt8) : hxS.contains c = isHx c := all8 (p := fun c => hxS.contains c = isHx c) (by decide +kernel) c
theorem hv_dgt (c : UInt8) : isHx c = true → dgx (hv c) = c ∧ hv c < 16 := all8 (p := fun c => isHx c = true → dgx (hv c) = c ∧ hv c < 16) (by decide +kernel) c
/-- The digits of a name. -/
def unD (l : List UInt8) : Option (List Nat) := if [117, 110, 105].isPrefixOf l = true ∧ (l.drop 3).length = 4 ∧ (l.drop 3).all isHx = true then some ((l.drop 3).map hv) else none
/-- The sign whose number a name tells. -/
def nmP (l : List UInt8) : Option (List UInt8) := match unD l with
  | none => none
  | some xs => if okR (hxN xs) then some (encR (hxN xs)) else none
def glQ (l : List UInt8) : Option (List UInt8) := match lk tbl l with
  | some r => some (encR r.toNat)
  | none => nmP l
/-- What a name stands for. -/
def glP (l : List UInt8) : Option (List UInt8) := match l with
  | [c] => if isLt c then some [c] else glQ [c]
  | l => glQ l
theorem dw_nil {p : UInt8 → Bool} : ∀ {l : List UInt8}, l.dropWhile p = [] ↔ ∀ x ∈ l, p x = true
  | [] => by simp
  | a :: l => by
    by_cases h : p a = true
    · rw [List.dropWhile_cons_of_pos h, dw_nil]
      simp [h]
    · rw [List.dropWhile_cons_of_neg h]
      constructor
      · intro q; cases q
      · intro q; exact absurd (q a (by simp)) h
theorem tw_mem {p : UInt8 → Bool} {x : UInt8} : ∀ {l : List UInt8}, x ∈ l.takeWhile p → p x = true
  | [], h => by simp at h
  | a :: l, h => by
    by_cases c : p a = true
    · rw [List.takeWhile_cons_of_pos c] at h
      rcases List.mem_cons.1 h with rfl | h
      · exact c
      · exact tw_mem h
    · rw [List.takeWhile_cons_of_neg c] at h; simp at h
theorem trimS_nil (l cs : List UInt8) : Lib.trimS l cs = [] ↔ l.all (cs.contains ·) = true := by
  unfold Lib.trimS Lib.trimLeftS Lib.trimRightS
  constructor
  · intro h
    rw [dw_nil] at h
    rw [List.all_eq_true]
    intro x hx
    have hx' : x ∈ l.reverse := by simpa using hx
    rw [← List.takeWhile_append_dropWhile (p := (cs.contains ·)) (l := l.reverse)] at hx'
    rcases List.mem_append.1 hx' with q | q
    · exact tw_mem (p := (cs.contains ·)) q
    · exact h x (by simpa using q)
  · intro h
    rw [List.all_eq_true] at h
    rw [dw_nil]
    intro x hx
    have : x ∈ l.reverse := List.dropWhile_sublist _ |>.subset (by simpa using hx)
    exact h x (by simpa using this)
theorem unD_dgt {l : List UInt8} {xs : List Nat} (h : unD l = some xs) : (l.drop 3) = xs.map dgx ∧ (∀ x ∈ xs, x < 16) ∧ xs.length = 4 := by
  unfold unD at h
  split at h
  · rename_i hc
    injection h with h
    subst h
    have ha := List.all_eq_true.1 hc.2.2
    refine ⟨?_, ?_, by rw [List.length_map]; exact hc.2.1⟩
    · rw [List.map_map]
      have : (l.drop 3).map (dgx ∘ hv) = (l.drop 3).map id := List.map_congr_left fun c hcm => (hv_dgt c (ha c hcm)).1
      rw [this, List.map_id]
    · intro x hx
      obtain ⟨c, hcm, rfl⟩ := List.mem_map.1 hx
      exact (hv_dgt c (ha c hcm)).2
  · cases h
set_option maxHeartbeats 1000000 in
theorem letter_says (c : UInt8) (w : World) : Calls Tryz.prog 146 #[.int .u8 (c.toNat : Int)] w fun e w' => e = .returned (.bool (isLt c)) ∧ w' = w := by
  have e : isLt c = ((decide ((97 : Int) ≤ c.toNat) && decide ((c.toNat : Int) ≤ 122)) || (decide ((65 : Int) ≤ c.toNat) && decide ((c.toNat : Int) ≤ 90))) := by
    unfold isLt
    congr 1 <;> congr 1 <;> (apply decide_eq_decide.2; omega)
  rw [e]
  generalize (c.toNat : Int) = n
  by_cases h1 : 97 ≤ n
  · by_cases h2 : n ≤ 122
    · go_enter Tryz.func146, Tryz.ntmps146
      go_wp2
      go_ret
      exact ⟨ret_bool (by first | rfl | (simp; done) | (simp; omega) | (rw [Bool.eq_iff_iff]; simp; omega) | (rw [Bool.eq_iff_iff]; simp <;> omega)), rfl⟩
    · by_cases h3 : n ≤ 90
      · omega
      · go_enter Tryz.func146, Tryz.ntmps146
        go_wp2
        go_ret
        exact ⟨ret_bool (by first | rfl | (simp; done) | (simp; omega) | (rw [Bool.eq_iff_iff]; simp; omega) | (rw [Bool.eq_iff_iff]; simp <;> omega)), rfl⟩
  · by_cases h2 : 65 ≤ n
    · by_cases h3 : n ≤ 90
      · go_enter Tryz.func146, Tryz.ntmps146
        go_wp2
        go_ret
        exact ⟨ret_bool (by first | rfl | (simp; done) | (simp; omega) | (rw [Bool.eq_iff_iff]; simp; omega) | (rw [Bool.eq_iff_iff]; simp <;> omega)), rfl⟩
      · go_enter Tryz.func146, Tryz.ntmps146
        go_wp2
        go_ret
        exact ⟨ret_bool (by first | rfl | (simp; done) | (simp; omega) | (rw [Bool.eq_iff_iff]; simp; omega) | (rw [Bool.eq_iff_iff]; simp <;> omega)), rfl⟩
    · go_enter Tryz.func146, Tryz.ntmps146
      go_wp2
      go_ret
      exact ⟨ret_bool (by first | rfl | (simp; done) | (simp; omega) | (rw [Bool.eq_iff_iff]; simp; omega) | (rw [Bool.eq_iff_iff]; simp <;> omega)), rfl⟩
/-- An answer of a name. -/
def ansG (o : Option (List UInt8)) : Ending := .returned (.tuple #[.string ⟨(o.getD []).toArray⟩, .bool o.isSome])
set_option maxHeartbeats 2000000 in
theorem numbered_says (name : ByteArray) (w : World) (_hn : name.size ≤ maxLen) :
    Calls Tryz.prog 148 #[.string name] w fun e w' => e = ansG (nmP name.data.toList) ∧ Below w.heap.size w w' := by
  have hcp := Tryz.strings_CutPrefix name ⟨#[117, 110, 105]⟩ w
  have hne : name.data.toList.length = name.size := by simp
  by_cases h1 : [117, 110, 105].isPrefixOf name.data.toList = true
  · have e1 : Lib.hasPrefix name.data.toList (⟨#[117, 110, 105]⟩ : ByteArray).data.toList = true := h1
    have e2 : Lib.trimPrefix name.data.toList (⟨#[117, 110, 105]⟩ : ByteArray).data.toList = name.data.toList.drop 3 := by unfold Lib.trimPrefix; rw [if_pos e1]; rfl
    rw [e1, e2] at hcp
    obtain ⟨D, hD⟩ : ∃ D : ByteArray, D = ⟨(name.data.toList.drop 3).toArray⟩ := ⟨_, rfl⟩
    have hDl : D.data.toList = name.data.toList.drop 3 := by rw [hD]
    have hDs : D.size = (name.data.toList.drop 3).length := by rw [← hDl]; simp
    rw [← hD] at hcp
    by_cases h2 : (name.data.toList.drop 3).length = 4
    · have ht := fun W => Tryz.strings_Trim_set D ⟨#[48, 49, 50, 51, 52, 53, 54, 55, 56, 57, 65, 66, 67, 68, 69, 70]⟩ W (by omega) (by decide) (by
        intro j b hj
        have : b ∈ hxS := List.mem_of_getElem? hj
        have q : ∀ b ∈ hxS, b.toNat < 128 := by decide
        exact q b this)
      obtain ⟨T, hT⟩ : ∃ T : ByteArray, T = ⟨(Lib.trimS D.data.toList hxS).toArray⟩ := ⟨_, rfl⟩
      have ht' : ∀ W, Calls Tryz.prog 163 #[.string D, .string ⟨#[48, 49, 50, 51, 52, 53, 54, 55, 56, 57, 65, 66, 67, 68, 69, 70]⟩] W fun e w' => e = .returned (.string T) ∧ Below W.heap.size W w' := fun W => by rw [hT]; exact ht W
      have hall : (name.data.toList.drop 3).all (hxS.contains ·) = (name.data.toList.drop 3).all isHx := by congr 1; funext c; exact hx_set c
      have HT := hid ht'
      have hd4 : (D.size : Int) = 4 := by omega
      have hTl : T.toList = Lib.trimS D.data.toList hxS := by rw [hT, ByteArray.toList_eq]
      by_cases h3 : (name.data.toList.drop 3).all isHx = true
      · have hTe : T.toList.isEmpty = true := by rw [hTl, hDl, (trimS_nil _ _).2 (hall.trans h3)]; rfl
        have hu : unD name.data.toList = some ((name.data.toList.drop 3).map hv) := by unfold unD; rw [if_pos ⟨h1, h2, h3⟩]
        obtain ⟨q1, q2, q3⟩ := unD_dgt hu
        have hp := fun W => parseInt4 D _ W (hDl.trans q1) q2 q3
        have hlt : hxN ((name.data.toList.drop 3).map hv) < 65536 := by have := hxN_take _ 4 (by omega) q2; rwa [List.take_of_length_le (by omega)] at this
        have hnm : nmP name.data.toList = if okR (hxN ((name.data.toList.drop 3).map hv)) then some (encR (hxN ((name.data.toList.drop 3).map hv))) else none := by unfold nmP; rw [hu]
        rw [hnm]
        generalize hxN ((name.data.toList.drop 3).map hv) = N at *
        have HP := hid hp
        have hN : (N : Int) < 65536 := by omega
        clear hp hu q1 q2 q3 hnm ht ht' hT hTl hall h1 h2 h3 hD hDl hDs e1 e2 hne
        by_cases hok : okR N
        · rw [if_pos hok]
          have hv1 : Lib.validRune (N : Int) = true := by unfold okR at hok; unfold Lib.validRune; exact decide_eq_true (by omega)
          have HE := hid (encLen N hok)
          have hv2 := Tryz.utf8_ValidRune (N : Int)
          rw [hv1] at hv2
          clear hok hv1
          go_enter Tryz.func148, Tryz.ntmps148
          go_wp2_with (go_at_call 162; fail)
          go_at_call 162
          refine hcp.mono ?_
          rintro e w1 ⟨rfl, rfl⟩
          go_wp2_with (go_at_call 163; fail)
          go_at_call 163
          refine (HT.out _).mono ?_
          rintro e w2 ⟨rfl, hb2⟩
          go_wp2_with (go_at_call 164; fail)
          go_at_call 164
          refine (HP.out _).mono ?_
          rintro e w3 ⟨rfl, hb3⟩
          have hB3 := chn' hb2 hb3
          clear hb2 hb3 HT HP hcp
          go_wp2_with (go_at_call 165; refine (hv2 _).mono ?_; rintro e w9 ⟨rfl, rfl⟩)
          go_ret2
          refine ⟨?_, hB3⟩
          have E : Utf8.encode (N : Int) = ⟨(encR N).toArray⟩ := by apply Go.WideShapes.bytes_inj; simpa using HE.out
          show Ending.returned (.tuple #[.string (Utf8.encode (N : Int)), .bool true]) = _
          rw [E]; rfl
        · rw [if_neg hok]
          have hv1 : Lib.validRune (N : Int) = false := by unfold okR at hok; unfold Lib.validRune; exact decide_eq_false (by omega)
          have hv2 := Tryz.utf8_ValidRune (N : Int)
          rw [hv1] at hv2
          clear hok hv1
          go_enter Tryz.func148, Tryz.ntmps148
          go_wp2_with (go_at_call 162; fail)
          go_at_call 162
          refine hcp.mono ?_
          rintro e w1 ⟨rfl, rfl⟩
          go_wp2_with (go_at_call 163; fail)
          go_at_call 163
          refine (HT.out _).mono ?_
          rintro e w2 ⟨rfl, hb2⟩
          go_wp2_with (go_at_call 164; fail)
          go_at_call 164
          refine (HP.out _).mono ?_
          rintro e w3 ⟨rfl, hb3⟩
          have hB3 := chn' hb2 hb3
          clear hb2 hb3 HT HP hcp
          go_wp2_with (go_at_call 165; refine (hv2 _).mono ?_; rintro e w9 ⟨rfl, rfl⟩)
          go_ret2
          exact ⟨rfl, hB3⟩
      · have hTe : T.toList.isEmpty = false := by
          rw [hTl, hDl]
          cases hh : Lib.trimS (name.data.toList.drop 3) hxS with
          | nil => exact absurd (hall.symm.trans ((trimS_nil _ _).1 hh)) h3
          | cons _ _ => rfl
        have hnm : nmP name.data.toList = none := by unfold nmP unD; rw [if_neg (fun q => h3 q.2.2)]
        rw [hnm]
        clear hnm ht ht' hT hTl hall h1 h2 h3 hD hDl hDs e1 e2 hne
        go_enter Tryz.func148, Tryz.ntmps148
        go_wp2_with (go_at_call 162; fail)
        go_at_call 162
        refine hcp.mono ?_
        rintro e w1 ⟨rfl, rfl⟩
        go_wp2_with (go_at_call 163; fail)
        go_at_call 163
        refine (HT.out _).mono ?_
        rintro e w2 ⟨rfl, hb2⟩
        clear HT hcp
        go_wp2_with fail
        go_ret2
        exact ⟨rfl, hb2⟩
    · have hnm : nmP name.data.toList = none := by unfold nmP unD; rw [if_neg (fun q => h2 q.2.1)]
      rw [hnm]
      have hd4 : ¬ (D.size : Int) = 4 := by omega
      have hd5 : ((D.size : Int) == 4) = false := by simpa using hd4
      clear hnm h1 h2 hD hDl hDs e1 e2 hne
      go_enter Tryz.func148, Tryz.ntmps148
      go_wp2_with (go_at_call 162; fail)
      go_at_call 162
      refine hcp.mono ?_
      rintro e w1 ⟨rfl, rfl⟩
      clear hcp
      go_wp2_with fail
      go_ret2
      exact ⟨rfl, Below.refl _ _⟩
  · have e1 : Lib.hasPrefix name.data.toList (⟨#[117, 110, 105]⟩ : ByteArray).data.toList = false := by
      cases hh : Lib.hasPrefix name.data.toList (⟨#[117, 110, 105]⟩ : ByteArray).data.toList with
      | true => exact absurd hh h1
      | false => rfl
    rw [e1] at hcp
    have hnm : nmP name.data.toList = none := by unfold nmP unD; rw [if_neg (fun q => h1 q.1)]
    rw [hnm]
    generalize (⟨(Lib.trimPrefix name.data.toList (⟨#[117, 110, 105]⟩ : ByteArray).data.toList).toArray⟩ : ByteArray) = D at hcp
    clear hnm h1 e1 hne
    go_enter Tryz.func148, Tryz.ntmps148
    go_wp2_with (go_at_call 162; fail)
    go_at_call 162
    refine hcp.mono ?_
    rintro e w1 ⟨rfl, rfl⟩
    clear hcp
    go_wp2_with fail
    go_ret2
    exact ⟨rfl, Below.refl _ _⟩
theorem lk_vals : ∀ (ps : List (List UInt8 × Int)), (∀ p ∈ ps, 0 ≤ p.2 ∧ p.2 < 128) → ∀ k v, lk ps k = some v → 0 ≤ v ∧ v < 128
  | [], _, k, v, h => by cases h
  | p :: ps, hp, k, v, h => by
    have el : lk (p :: ps) k = (match lk ps k with | some v => some v | none => if p.1 = k then some p.2 else none) := rfl
    rw [el] at h
    cases hl : lk ps k with
    | some u => rw [hl] at h; injection h with h; subst h; exact lk_vals ps (fun q hq => hp q (by simp [hq])) k u hl
    | none =>
      rw [hl] at h
      simp only at h
      split at h
      · injection h with h; subst h; exact hp p (by simp)
      · cases h
theorem tbl_vals {k : List UInt8} {v : Int} (h : lk tbl k = some v) : 0 ≤ v ∧ v < 128 := lk_vals tbl (by decide) k v h
theorem glP_other {l : List UInt8} (h : ∀ c, l = [c] → isLt c = false) : glP l = glQ l := by
  match l, h with
  | [], _ => rfl
  | [c], h => show (if isLt c then some [c] else glQ [c]) = _; rw [h c rfl]; rfl
  | a :: b :: r, _ => rfl
set_option maxHeartbeats 2000000 in
theorem glQ_says (name : ByteArray) (w : World) (hn : name.size ≤ maxLen) (hsel : (name.size : Int) ≠ 1 ∨ ∃ h : 0 < name.size, (name.size : Int) = 1 ∧ isLt name[0] = false) :
    Calls Tryz.prog 129 #[.string name] w fun e w' => e = ansG (glQ name.data.toList) ∧ Below w.heap.size w w' := by
  have hcl := called_says w
  have hnum := fun W => numbered_says name W hn
  have hz := zeroRune
  have hkey : keyOf Tryz.prog 9 (.string name) = some (.string name.data.toList) := keyOf_string_mk Tryz.underlying9 hn
  have HM := hid (fun (W : World) (h : W.ownsMap Tryz.prog 9 (plainElem (H := Unit) Tryz.prog 21) w.heap.size 15 tblD) => by
    obtain ⟨v, ps, hr, hv⟩ := h.look_ok lawS Tryz.underlying204 (hz W) (zd := .lit (.int .i32 0)) (zp := []) (plainElem_int Tryz.underlying21 (by decide)) hkey
    rw [tbl_at] at hv
    obtain ⟨c, rfl, hc, _⟩ := plainElem_int_inv Tryz.underlying21 hv
    rw [tbl_has] at hr
    have hc' := congrArg Prod.fst hc
    simp only [DataW.lit.injEq, Lit.int.injEq, true_and] at hc'
    rw [← hc'] at hr
    exact hr)
  have HNM := hid hnum
  have HC := hid hcl
  clear hcl hnum hz hkey hn
  cases hl : lk tbl name.data.toList with
  | some r =>
    have hg : glQ name.data.toList = some (encR r.toNat) := by unfold glQ; rw [hl]
    rw [hg]
    obtain ⟨r0, r1⟩ := tbl_vals hl
    rw [hl] at HM
    simp only [Option.getD_some, Option.isSome_some] at HM
    have E : Utf8.encode r = ⟨(encR r.toNat).toArray⟩ := by
      apply Go.WideShapes.bytes_inj
      have q := encLen r.toNat (.inl (by omega))
      rw [show ((r.toNat : Nat) : Int) = r by omega] at q
      simpa using q
    have HE := hid E
    clear hl hg E
    rcases hsel with h1 | ⟨h0, h1, h2⟩
    · have h1' : ((name.size : Int) == 1) = false := by simpa using h1
      go_enter Tryz.func129, Tryz.ntmps129
      go_wp2_with (go_at_call 147; fail)
      go_at_call 147
      refine HC.out.mono ?_
      rintro e w1 ⟨rfl, ho, hb⟩
      have hlk := HM.out w1 ho
      clear ho HM HC
      go_wp2_with fail
      go_ret2
      refine ⟨?_, hb⟩
      show Ending.returned (.tuple #[.string (Utf8.encode r), .bool true]) = _
      rw [HE.out]; rfl
    · have HLT := hid (fun W => by have q := letter_says name[0] W; rw [h2] at q; exact q)
      clear h2
      go_enter Tryz.func129, Tryz.ntmps129
      go_wp2_with (go_at_call 146; refine (HLT.out _).mono ?_; rintro e w9 ⟨rfl, rfl⟩)
      refine HC.out.mono ?_
      rintro e w1 ⟨rfl, ho, hb⟩
      have hlk := HM.out w1 ho
      clear ho HM HC
      go_wp2_with fail
      go_ret2
      refine ⟨?_, hb⟩
      show Ending.returned (.tuple #[.string (Utf8.encode r), .bool true]) = _
      rw [HE.out]; rfl
  | none =>
    have hg : glQ name.data.toList = nmP name.data.toList := by unfold glQ; rw [hl]
    rw [hg]
    rw [hl] at HM
    simp only [Option.getD_none, Option.isSome_none] at HM
    clear hl hg
    rcases hsel with h1 | ⟨h0, h1, h2⟩
    · have h1' : ((name.size : Int) == 1) = false := by simpa using h1
      go_enter Tryz.func129, Tryz.ntmps129
      go_wp2_with (go_at_call 147; fail)
      go_at_call 147
      refine HC.out.mono ?_
      rintro e w1 ⟨rfl, ho, hb⟩
      have hlk := HM.out w1 ho
      clear ho HM HC
      go_wp2_with (go_at_call 148; fail)
      go_at_call 148
      refine (HNM.out _).mono ?_
      rintro e w2 ⟨rfl, hb2⟩
      unfold ansG
      go_wp2_with fail
      go_ret2
      exact ⟨rfl, chn' hb hb2⟩
    · have HLT := hid (fun W => by have q := letter_says name[0] W; rw [h2] at q; exact q)
      clear h2
      go_enter Tryz.func129, Tryz.ntmps129
      go_wp2_with (go_at_call 146; refine (HLT.out _).mono ?_; rintro e w9 ⟨rfl, rfl⟩)
      refine HC.out.mono ?_
      rintro e w1 ⟨rfl, ho, hb⟩
      have hlk := HM.out w1 ho
      clear ho HM HC
      go_wp2_with (go_at_call 148; fail)
      go_at_call 148
      refine (HNM.out _).mono ?_
      rintro e w2 ⟨rfl, hb2⟩
      unfold ansG
      go_wp2_with fail
      go_ret2
      exact ⟨rfl, chn' hb hb2⟩
end Go.Proofs.YtobpidmlgldnmaaGreatDoor

/-
  A code's width and text in a font.
-/
namespace Go.Proofs.YtobpidmlgldnmaaGreatDoor
open Go.RowKit Go.WideMaps Go.Maps
set_option maxRecDepth 100000
attribute [local go_sem ↓] Go.wp_at_zero Go.wp_at_succ

set_option maxHeartbeats 1000000 in
theorem glyph_says (name : ByteArray) (w : World) (hn : name.size ≤ maxLen) :
    Calls Tryz.prog 129 #[.string name] w fun e w' => e = ansG (glP name.data.toList) ∧ Below w.heap.size w w' := by
  have hsz : name.data.toList.length = name.size := by simp
  by_cases h1 : name.size = 1
  · have h0 : 0 < name.size := by omega
    have hl : name.data.toList = [name[0]] := by
      have q : name.data.toList.length = 1 := by omega
      obtain ⟨c, hc⟩ := List.length_eq_one_iff.1 q
      have : name = ⟨[c].toArray⟩ := by apply Go.WideShapes.bytes_inj; simpa using hc
      subst this
      rfl
    by_cases h2 : isLt name[0] = true
    · have hg : glP name.data.toList = some name.data.toList := by rw [hl]; show (if isLt name[0] then some [name[0]] else glQ [name[0]]) = _; rw [h2]; rfl
      rw [hg]
      have HLT := hid (fun W => by have q := letter_says name[0] W; rw [h2] at q; exact q)
      have h1' : (name.size : Int) = 1 := by omega
      clear h2 hg hl hsz h1
      go_enter Tryz.func129, Tryz.ntmps129
      go_wp2_with (go_at_call 146; refine (HLT.out _).mono ?_; rintro e w9 ⟨rfl, rfl⟩)
      go_ret2
      exact ⟨rfl, Below.refl _ _⟩
    · have h2' : isLt name[0] = false := by simpa using h2
      rw [glP_other (fun c hc => by rw [hl] at hc; injection hc with hc _; rw [← hc]; exact h2')]
      exact glQ_says name w hn (.inr ⟨h0, by omega, h2'⟩)
  · rw [glP_other (fun c hc => by rw [hc] at hsz; exact absurd hsz.symm h1)]
    exact glQ_says name w hn (.inl (by omega))
/-- A font: widths, names, spans. -/
structure Ft where
  wide : Bool
  wf : Int → Option Int
  miss : Int
  nf : Int → Option ByteArray
  l : List Sp
/-- A font in memory. -/
structure FtAt (w : World) (F : Ft) (mw mn : Value) (al : Option Addr) : Prop where
  wd : ∀ W, Below w.heap.size w W → ∀ c : Int, 0 ≤ c → c ≤ 65535 → (Instr.lookup 52 mw (.int .i64 c) true).run Tryz.prog W = .ok (.tuple #[.int .i64 ((F.wf c).getD 0), .bool (F.wf c).isSome]) W
  nm : ∀ W, Below w.heap.size w W → ∀ c : Int, 0 ≤ c → c ≤ 65535 → (Instr.lookup 53 mn (.int .i64 c) true).run Tryz.prog W = .ok (.tuple #[.string ((F.nf c).getD ⟨#[]⟩), .bool (F.nf c).isSome]) W
  ns : ∀ c n, F.nf c = some n → n.size ≤ maxLen
  sp : SpAt w al F.l
  len : F.l.length ≤ maxLen
abbrev ftV (F : Ft) (mw mn : Value) (al : Option Addr) (cap : Nat) : Value := .agg #[.bool F.wide, mw, .int .i64 F.miss, mn, .slice al F.l.length cap]
theorem FtAt.later {w w' : World} {F : Ft} {mw mn : Value} {al : Option Addr} (h : FtAt w F mw mn al) (hb : Below w.heap.size w w') : FtAt w' F mw mn al :=
  ⟨fun W hW => h.wd W (chn' hb hW), fun W hW => h.nm W (chn' hb hW), h.ns, h.sp.later hb, h.len⟩
def wdP (F : Ft) (c : Int) : Int := (F.wf c).getD F.miss
def txP (F : Ft) (c : Int) : List UInt8 := match codeT F.l c with
  | some t => t
  | none => if F.wide then [] else match F.nf c with
    | some n => (glP n.data.toList).getD []
    | none => if 32 ≤ c ∧ c ≤ 126 then [UInt8.ofNat c.toNat] else []
set_option maxHeartbeats 1000000 in
theorem width_says (F : Ft) (mw mn : Value) (al : Option Addr) (cap : Nat) (c : Int) (w : World) (hF : FtAt w F mw mn al) (h0 : 0 ≤ c) (h1 : c ≤ 65535) :
    Calls Tryz.prog 102 #[ftV F mw mn al cap, .int .i64 c] w fun e w' => e = .returned (.int .i64 (wdP F c)) ∧ Below w.heap.size w w' := by
  have hl := fun W hB => hF.wd W hB c h0 h1
  unfold wdP
  obtain ⟨wide, wf, miss, nf, l⟩ := F
  simp only at hl
  have e1 := hl (w.alloc (.cells #[.bool wide, mw, .int .i64 miss, mn, .slice al l.length cap] 56)) (by go_grown)
  unfold ftV
  simp only
  clear hl hF
  cases hw : wf c with
  | some v =>
    rw [hw] at e1
    simp only [Option.getD_some, Option.isSome_some] at e1 ⊢
    clear hw h0 h1
    go_enter Tryz.func102, Tryz.ntmps102
    go_wp2_with fail
    go_ret
    exact ⟨rfl, by go_grown⟩
  | none =>
    rw [hw] at e1
    simp only [Option.getD_none, Option.isSome_none] at e1 ⊢
    clear hw h0 h1
    go_enter Tryz.func102, Tryz.ntmps102
    go_wp2_with fail
    go_ret
    exact ⟨rfl, by go_grown⟩
set_option maxHeartbeats 2000000 in
theorem ftext_says (F : Ft) (mw mn : Value) (al : Option Addr) (cap : Nat) (c : Int) (w : World) (hF : FtAt w F mw mn al) (hT : Tb w) (hf : spFault F.l F.wide = 0) (h0 : 0 ≤ c) (h1 : c ≤ 65535) :
    Calls Tryz.prog 103 #[ftV F mw mn al cap, .int .i64 c] w fun e w' => e = .returned (.string ⟨(txP F c).toArray⟩) ∧ Below w.heap.size w w' := by
  have hl := fun W hB => hF.nm W hB c h0 h1
  have hns := hF.ns c
  have htx := fun W (hB : Below w.heap.size w W) => text_sp F.l F.wide c al cap W hF.len (hF.sp.later hB) (hT.below hB) hf
  unfold txP
  obtain ⟨wide, wf, miss, nf, l⟩ := F
  simp only at hl hns htx
  unfold ftV
  simp only
  clear hF hf hT
  cases hc : codeT l c with
  | some t =>
    rw [hc] at htx
    simp only [Option.getD_some, Option.isSome_some] at htx ⊢
    have HX := hid htx
    clear hc htx hl hns h0 h1
    go_enter Tryz.func103, Tryz.ntmps103
    go_wp2_with (go_at_call 128; fail)
    go_at_call 128
    refine (HX.out _ (by go_grown)).mono ?_
    rintro e w1 ⟨rfl, hb1⟩
    have hB1 : Below w.heap.size w w1 := chn' (by go_grown) hb1
    have A1 := At.later (At.new w #[.bool wide, mw, .int .i64 miss, mn, .slice al l.length cap] 56 rfl) hb1
    have z1 := A1.lt
    have k0 := A1.cell 0
    simp at k0
    clear hb1 HX A1
    go_wp2_with fail
    go_ret
    exact ⟨rfl, hB1⟩
  | none =>
    rw [hc] at htx
    simp only [Option.getD_none, Option.isSome_none] at htx ⊢
    have HX := hid htx
    have HL := hid hl
    clear hc htx hl
    cases wide with
    | true =>
      simp only [if_true]
      clear HL hns h0 h1
      go_enter Tryz.func103, Tryz.ntmps103
      go_wp2_with (go_at_call 128; fail)
      go_at_call 128
      refine (HX.out _ (by go_grown)).mono ?_
      rintro e w1 ⟨rfl, hb1⟩
      have hB1 : Below w.heap.size w w1 := chn' (by go_grown) hb1
      have A1 := At.later (At.new w #[.bool true, mw, .int .i64 miss, mn, .slice al l.length cap] 56 rfl) hb1
      have z1 := A1.lt
      have k0 := A1.cell 0
      simp at k0
      clear hb1 HX A1
      go_wp2_with fail
      go_ret
      exact ⟨rfl, hB1⟩
    | false =>
      simp only [Bool.false_eq_true, if_false]
      cases hn : nf c with
      | some n =>
        have hsz := hns n hn
        rw [hn] at HL
        simp only [Option.getD_some, Option.isSome_some] at HL ⊢
        have HG := hid (fun W => glyph_says n W hsz)
        clear hn hns hsz h0 h1
        go_enter Tryz.func103, Tryz.ntmps103
        go_wp2_with (go_at_call 128; fail)
        go_at_call 128
        refine (HX.out _ (by go_grown)).mono ?_
        rintro e w1 ⟨rfl, hb1⟩
        have hB1 : Below w.heap.size w w1 := chn' (by go_grown) hb1
        have A1 := At.later (At.new w #[.bool false, mw, .int .i64 miss, mn, .slice al l.length cap] 56 rfl) hb1
        have z1 := A1.lt
        have k0 := A1.cell 0
        have k3 := A1.cell 3
        simp at k0 k3
        have e1 := HL.out w1 hB1
        clear hb1 HX A1 HL
        go_wp2_with (go_at_call 129; fail)
        go_at_call 129
        refine (HG.out _).mono ?_
        rintro e w2 ⟨rfl, hb2⟩
        unfold ansG
        go_wp2_with fail
        go_ret
        exact ⟨rfl, chn' hB1 hb2⟩
      | none =>
        rw [hn] at HL
        simp only [Option.getD_none, Option.isSome_none] at HL ⊢
        clear hn hns
        by_cases c1 : 32 ≤ c
        · by_cases c2 : c ≤ 126
          · rw [if_pos ⟨c1, c2⟩]
            have E : Utf8.encode c = ⟨[UInt8.ofNat c.toNat].toArray⟩ := by
              apply Go.WideShapes.bytes_inj
              have q := encLen c.toNat (.inl (by omega))
              rw [show ((c.toNat : Nat) : Int) = c by omega] at q
              rw [q]
              unfold encR
              rw [if_pos (by omega)]
            have HE := hid E
            clear E
            go_enter Tryz.func103, Tryz.ntmps103
            go_wp2_with (go_at_call 128; fail)
            go_at_call 128
            refine (HX.out _ (by go_grown)).mono ?_
            rintro e w1 ⟨rfl, hb1⟩
            have hB1 : Below w.heap.size w w1 := chn' (by go_grown) hb1
            have A1 := At.later (At.new w #[.bool false, mw, .int .i64 miss, mn, .slice al l.length cap] 56 rfl) hb1
            have z1 := A1.lt
            have k0 := A1.cell 0
            have k3 := A1.cell 3
            simp at k0 k3
            have e1 := HL.out w1 hB1
            clear hb1 HX A1 HL
            go_wp2_with fail
            go_ret
            refine ⟨?_, hB1⟩
            show Ending.returned (.string (Utf8.encode c)) = _
            rw [HE.out]
          · rw [if_neg (fun q => c2 q.2)]
            go_enter Tryz.func103, Tryz.ntmps103
            go_wp2_with (go_at_call 128; fail)
            go_at_call 128
            refine (HX.out _ (by go_grown)).mono ?_
            rintro e w1 ⟨rfl, hb1⟩
            have hB1 : Below w.heap.size w w1 := chn' (by go_grown) hb1
            have A1 := At.later (At.new w #[.bool false, mw, .int .i64 miss, mn, .slice al l.length cap] 56 rfl) hb1
            have z1 := A1.lt
            have k0 := A1.cell 0
            have k3 := A1.cell 3
            simp at k0 k3
            have e1 := HL.out w1 hB1
            clear hb1 HX A1 HL
            go_wp2_with fail
            go_ret
            exact ⟨rfl, hB1⟩
        · rw [if_neg (fun q => c1 q.1)]
          go_enter Tryz.func103, Tryz.ntmps103
          go_wp2_with (go_at_call 128; fail)
          go_at_call 128
          refine (HX.out _ (by go_grown)).mono ?_
          rintro e w1 ⟨rfl, hb1⟩
          have hB1 : Below w.heap.size w w1 := chn' (by go_grown) hb1
          have A1 := At.later (At.new w #[.bool false, mw, .int .i64 miss, mn, .slice al l.length cap] 56 rfl) hb1
          have z1 := A1.lt
          have k0 := A1.cell 0
          have k3 := A1.cell 3
          simp at k0 k3
          have e1 := HL.out w1 hB1
          clear hb1 HX A1 HL
          go_wp2_with fail
          go_ret
          exact ⟨rfl, hB1⟩
end Go.Proofs.YtobpidmlgldnmaaGreatDoor

/-
  A font as an argument; maps that came in.
-/
namespace Go.Proofs.YtobpidmlgldnmaaGreatDoor
open Go.RowKit Go.WideShapes Go.ChangeShapes Go.Deep Go.Joins Go.Maps
set_option maxRecDepth 100000

theorem lawI : Keyed Tryz.prog 3 := int_keyed Tryz.underlying3
theorem zeroI (w : World) : (zeroValue 3).run Tryz.prog w = .ok (.int .i64 0) w := by kernel_rfl
theorem zeroS (w : World) : (zeroValue 9).run Tryz.prog w = .ok (.string ⟨#[]⟩) w := by kernel_rfl
theorem keyI {c : Int} (h0 : 0 ≤ c) (h1 : c ≤ 65535) : keyOf Tryz.prog 3 (.int .i64 c) = some (.int .i64 c) := keyOf_int_mk Tryz.underlying3 (WalkArith.wf_i64 (by omega))
theorem kept_below {H : Type} {w W : World} {b n : Nat} {D : DataW H} {k : TypeId} {R : Value → Option (DataW H × List MemPlace)} (h : w.ownsMap Tryz.prog k R b n D) (hB : Below w.heap.size w W) : W.ownsMap Tryz.prog k R b n D :=
  h.kept (row := none) ⟨hB.os, hB.tape, hB.output, hB.size, fun k hk _ => hB.block k hk⟩ (by simp)
theorem look_w {H : Type} {w : World} {b n : Nat} {D : DataW H} (h : w.ownsMap Tryz.prog 3 (plainElem Tryz.prog 3) b n D) (c : Int) : ∃ o : Option Int, 0 ≤ c → c ≤ 65535 → ∀ W, Below w.heap.size w W →
    (Instr.lookup 52 (.map (some b)) (.int .i64 c) true).run Tryz.prog W = .ok (.tuple #[.int .i64 (o.getD 0), .bool o.isSome]) W := by
  by_cases hc : 0 ≤ c ∧ c ≤ 65535
  · have hz0 : plainElem (H := H) Tryz.prog 3 (.int .i64 0) = some (.lit (.int .i64 0), []) := plainElem_int Tryz.underlying3 (by decide)
    obtain ⟨v, ps, _, hv⟩ := h.look_ok lawI Tryz.underlying52 (zeroI w) hz0 (keyI hc.1 hc.2)
    obtain ⟨a, _, ha, _⟩ := plainElem_int_inv Tryz.underlying3 hv
    have ha' := congrArg Prod.fst ha
    simp only at ha'
    refine ⟨if Maps.has D (.int .i64 c) then some a else none, fun _ _ W hB => ?_⟩
    obtain ⟨v', ps', hr', hv'⟩ := (kept_below h hB).look_ok lawI Tryz.underlying52 (zeroI W) hz0 (keyI hc.1 hc.2)
    obtain ⟨a', rfl, hb, _⟩ := plainElem_int_inv Tryz.underlying3 hv'
    have hb' := congrArg Prod.fst hb
    simp only at hb'
    rw [ha'] at hb'
    simp only [DataW.lit.injEq, Lit.int.injEq, true_and] at hb'
    subst hb'
    rw [hr']
    cases hh : Maps.has D (.int .i64 c) with
    | true => rfl
    | false =>
      rw [atKey_of_not_has hh] at ha'
      simp only [DataW.lit.injEq, Lit.int.injEq, true_and] at ha'
      rw [← ha']; rfl
  · exact ⟨none, fun h0 h1 => absurd ⟨h0, h1⟩ hc⟩
theorem look_n {H : Type} {w : World} {b n : Nat} {D : DataW H} (h : w.ownsMap Tryz.prog 3 (plainElem Tryz.prog 9) b n D) (c : Int) : ∃ o : Option ByteArray, (∀ s, o = some s → s.size ≤ maxLen) ∧ (0 ≤ c → c ≤ 65535 → ∀ W, Below w.heap.size w W →
    (Instr.lookup 53 (.map (some b)) (.int .i64 c) true).run Tryz.prog W = .ok (.tuple #[.string (o.getD ⟨#[]⟩), .bool o.isSome]) W) := by
  by_cases hc : 0 ≤ c ∧ c ≤ 65535
  · have hz0 : plainElem (H := H) Tryz.prog 9 (.string ⟨#[]⟩) = some (.lit (.string []), []) := plainElem_string Tryz.underlying9 (by unfold maxLen; decide)
    obtain ⟨v, ps, _, hv⟩ := h.look_ok lawI Tryz.underlying53 (zeroS w) hz0 (keyI hc.1 hc.2)
    obtain ⟨a, _, ha, hsz⟩ := plainElem_string_inv Tryz.underlying9 hv
    have ha' := congrArg Prod.fst ha
    simp only at ha'
    refine ⟨if Maps.has D (.int .i64 c) then some a else none, fun s hs => ?_, fun _ _ W hB => ?_⟩
    · split at hs
      · injection hs with hs; subst hs; exact hsz
      · cases hs
    obtain ⟨v', ps', hr', hv'⟩ := (kept_below h hB).look_ok lawI Tryz.underlying53 (zeroS W) hz0 (keyI hc.1 hc.2)
    obtain ⟨a', rfl, hb, _⟩ := plainElem_string_inv Tryz.underlying9 hv'
    have hb' := congrArg Prod.fst hb
    simp only at hb'
    rw [ha'] at hb'
    simp only [DataW.lit.injEq, Lit.string.injEq] at hb'
    have hb2 : a = a' := Go.WideShapes.bytes_inj hb'
    subst hb2
    rw [hr']
    cases hh : Maps.has D (.int .i64 c) with
    | true => rfl
    | false =>
      rw [atKey_of_not_has hh] at ha'
      simp only [DataW.lit.injEq, Lit.string.injEq] at ha'
      have : a = ⟨#[]⟩ := Go.WideShapes.bytes_inj (by rw [← ha'])
      rw [this]; rfl
  · exact ⟨none, fun s hs => (by cases hs), fun h0 h1 => absurd ⟨h0, h1⟩ hc⟩
/-- A font that came in. -/
structure FtIn (w : World) (F : Ft) (mw mn : Value) (al : Option Addr) : Prop where
  at_ : FtAt w F mw mn al
  wl : ∃ k : Nat, ∀ W ty, Below w.heap.size w W → (Builtin.len_ #[52] ty #[mw]).run Tryz.prog W = .ok (.int .i64 (k : Int)) W
  nl : ∃ k : Nat, ∀ W ty, Below w.heap.size w W → (Builtin.len_ #[53] ty #[mn]).run Tryz.prog W = .ok (.int .i64 (k : Int)) W
  nr : mn = .map none ∨ ∃ (H : Type) (b n : Nat) (D : DataW H), mn = .map (some b) ∧ w.ownsMap Tryz.prog 3 (plainElem Tryz.prog 9) b n D
theorem array5 {α : Type} {cs : Array α} (h : cs.size = 5) : ∃ c0 c1 c2 c3 c4, cs = #[c0, c1, c2, c3, c4] := by
  obtain ⟨l⟩ := cs
  match l, h with
  | [c0, c1, c2, c3, c4], _ => exact ⟨c0, c1, c2, c3, c4, rfl⟩
theorem cellsFt : Tryz.prog.cellsOf 56 = 5 := by kernel_rfl
theorem spans_cell {H : Type} {enc : TypeId × Value → H} {W : World} {fuel : Nat} {v : Value} {x : DataW H × List MemPlace} (hf : DataW.trod enc Tryz.prog W 0 (fun _ => true) true fuel 54 [v] = some x) :
    ∃ al l c, v = .slice al (List.length l) c ∧ List.length l ≤ maxLen ∧ SpAt W al l := by
  obtain ⟨al, len, cap, es, q, hl, hlen, _, hL⟩ := trod_list Tryz.underlying54 cellsSp (by omega) hf
  have hL2 : ∀ i : Nat, ∃ x : Sp, ∀ y, es[i]? = some y → ∃ b off, al = some ⟨b, off, none⟩ ∧ b < W.heap.size ∧ W.cell? ⟨b, off + i * 3, none⟩ = some (.int .i64 x.f) ∧ W.cell? ⟨b, off + i * 3 + 1, none⟩ = some (.int .i64 x.t) ∧ W.cell? ⟨b, off + i * 3 + 2, none⟩ = some (.string x.s) ∧
      (-9223372036854775808 ≤ x.f ∧ x.f ≤ 9223372036854775807) ∧ (-9223372036854775808 ≤ x.t ∧ x.t ≤ 9223372036854775807) ∧ x.s.size ≤ maxLen := fun i => by
    cases hi : es[i]? with
    | none => exact ⟨⟨0, 0, ByteArray.empty⟩, fun y h => by cases h⟩
    | some y =>
      obtain ⟨b, off, c, z1, z2, z3, z4, z5⟩ := hL i y hi
      obtain ⟨xs, n, _, _, _, hlen', hx⟩ := DataW.trod_struct Tryz.underlying98 z5
      obtain ⟨c0, c1, c2, rfl⟩ := list3 z3
      have hxl : xs.length = 3 := hlen'
      obtain ⟨y0, y1, y2, rfl⟩ := list3 hxl
      have g0 : DataW.trod enc Tryz.prog W 0 (fun _ => true) true n 3 [c0] = some y0 := hx 0 _ rfl
      have g1 : DataW.trod enc Tryz.prog W 0 (fun _ => true) true n 3 [c1] = some y1 := hx 1 _ rfl
      have g2 : DataW.trod enc Tryz.prog W 0 (fun _ => true) true n 9 [c2] = some y2 := hx 2 _ rfl
      obtain ⟨k0, q0, _, w0⟩ := DataW.trod_int Tryz.underlying3 g0
      obtain ⟨k1, q1, _, w1⟩ := DataW.trod_int Tryz.underlying3 g1
      obtain ⟨s0, q2, _, hs⟩ := DataW.trod_string Tryz.underlying9 g2
      simp only [List.cons.injEq, and_true] at q0 q1 q2
      subst q0 q1 q2
      refine ⟨⟨k0, k1, s0⟩, fun y' h => ?_⟩
      cases h
      exact ⟨b, off, z1, z2, z4 0 _ rfl, z4 1 _ rfl, z4 2 _ rfl, wf64 w0, wf64 w1, hs⟩
  obtain ⟨gL, hgL⟩ := Classical.axiomOfChoice hL2
  subst q
  refine ⟨al, (List.range len).map gL, cap, by simp, by simpa using hl, fun i x hx => ?_⟩
  simp only [List.getElem?_map, Option.map_eq_some_iff] at hx
  obtain ⟨j, hj, rfl⟩ := hx
  have hi := (List.getElem?_eq_some_iff.1 hj).1
  simp at hi
  have : j = i := by simpa [List.getElem?_range hi] using hj.symm
  subst this
  exact hgL j _ (List.getElem?_eq_getElem (by omega))
end Go.Proofs.YtobpidmlgldnmaaGreatDoor
