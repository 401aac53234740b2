/-
  What a name of a sign stands for: the program's answer.
-/
import Derived.Test.YtggojafapieliabDoorGb
import Derived.Test.YtggojafapieliabDoorGc
import Derived.Test.YtggojafapieliabDoorCe
import Derived.Lib.SlTrimSet
namespace Go.Proofs.YtggojafapieliabDoor
open Go.RowKit Go.WideMaps Go.Maps
set_option maxRecDepth 100000
attribute [local go_sem ↓] Go.wp_at_zero Go.wp_at_succ

def isLt (c : UInt8) : Bool := (decide (97 ≤ c.toNat) && decide (c.toNat ≤ 122)) || (decide (65 ≤ c.toNat) && decide (c.toNat ≤ 90))
def isHx (c : UInt8) : Bool := (decide (48 ≤ c.toNat) && decide (c.toNat ≤ 57)) || (decide (65 ≤ c.toNat) && decide (c.toNat ≤ 70))
def hv (c : UInt8) : Nat := if c.toNat < 58 then c.toNat - 48 else c.toNat - 55
def hxS : List UInt8 := [48, 49, 50, 51, 52, 53, 54, 55, 56, 57, 65, 66, 67, 68, 69, 70]
theorem all8 {p : UInt8 → Prop} (h : ∀ x : Fin 256, p (UInt8.ofNat x.1)) (c : UInt8) : p c := by
  have q := h ⟨c.toNat, c.toNat_lt⟩
  have e : UInt8.ofNat c.toNat = c := by simp
  rwa [e] at q
theorem hx_set (c : UInt8) : hxS.contains c = isHx c := all8 (p := fun c => hxS.contains c = isHx c) (by decide +kernel) c
theorem hv_dgt (c : UInt8) : isHx c = true → dgt (hv c) = c ∧ hv c < 16 := all8 (p := fun c => isHx c = true → dgt (hv c) = c ∧ hv c < 16) (by decide +kernel) c
/-- The digits of a name. -/
def unD (l : List UInt8) : Option (List Nat) := if [117, 110, 105].isPrefixOf l = true ∧ (l.drop 3).length = 4 ∧ (l.drop 3).all isHx = true then some ((l.drop 3).map hv) else none
/-- The sign whose number a name tells. -/
def nmP (l : List UInt8) : Option (List UInt8) := match unD l with
  | none => none
  | some xs => if okR (hxN xs) then some (encR (hxN xs)) else none
def glQ (l : List UInt8) : Option (List UInt8) := match lk tbl l with
  | some r => some (encR r.toNat)
  | none => nmP l
/-- What a name stands for. -/
def glP (l : List UInt8) : Option (List UInt8) := match l with
  | [c] => if isLt c then some [c] else glQ [c]
  | l => glQ l
theorem dw_nil {p : UInt8 → Bool} : ∀ {l : List UInt8}, l.dropWhile p = [] ↔ ∀ x ∈ l, p x = true
  | [] => by simp
  | a :: l => by
    by_cases h : p a = true
    · rw [List.dropWhile_cons_of_pos h, dw_nil]
      simp [h]
    · rw [List.dropWhile_cons_of_neg h]
      constructor
      · intro q; cases q
      · intro q; exact absurd (q a (by simp)) h
theorem tw_mem {p : UInt8 → Bool} {x : UInt8} : ∀ {l : List UInt8}, x ∈ l.takeWhile p → p x = true
  | [], h => by simp at h
  | a :: l, h => by
    by_cases c : p a = true
    · rw [List.takeWhile_cons_of_pos c] at h
      rcases List.mem_cons.1 h with rfl | h
      · exact c
      · exact tw_mem h
    · rw [List.takeWhile_cons_of_neg c] at h; simp at h
theorem trimS_nil (l cs : List UInt8) : Lib.trimS l cs = [] ↔ l.all (cs.contains ·) = true := by
  unfold Lib.trimS Lib.trimLeftS Lib.trimRightS
  constructor
  · intro h
    rw [dw_nil] at h
    rw [List.all_eq_true]
    intro x hx
    have hx' : x ∈ l.reverse := by simpa using hx
    rw [← List.takeWhile_append_dropWhile (p := (cs.contains ·)) (l := l.reverse)] at hx'
    rcases List.mem_append.1 hx' with q | q
    · exact tw_mem (p := (cs.contains ·)) q
    · exact h x (by simpa using q)
  · intro h
    rw [List.all_eq_true] at h
    rw [dw_nil]
    intro x hx
    have : x ∈ l.reverse := List.dropWhile_sublist _ |>.subset (by simpa using hx)
    exact h x (by simpa using this)
theorem unD_dgt {l : List UInt8} {xs : List Nat} (h : unD l = some xs) : (l.drop 3) = xs.map dgt ∧ (∀ x ∈ xs, x < 16) ∧ xs.length = 4 := by
  unfold unD at h
  split at h
  · rename_i hc
    injection h with h
    subst h
    have ha := List.all_eq_true.1 hc.2.2
    refine ⟨?_, ?_, by rw [List.length_map]; exact hc.2.1⟩
    · rw [List.map_map]
      have : (l.drop 3).map (dgt ∘ hv) = (l.drop 3).map id := List.map_congr_left fun c hcm => (hv_dgt c (ha c hcm)).1
      rw [this, List.map_id]
    · intro x hx
      obtain ⟨c, hcm, rfl⟩ := List.mem_map.1 hx
      exact (hv_dgt c (ha c hcm)).2
  · cases h
set_option maxHeartbeats 1000000 in
theorem letter_says (c : UInt8) (w : World) : Calls Tryd.prog 35 #[.int .u8 (c.toNat : Int)] w fun e w' => e = .returned (.bool (isLt c)) ∧ w' = w := by
  have e : isLt c = ((decide ((97 : Int) ≤ c.toNat) && decide ((c.toNat : Int) ≤ 122)) || (decide ((65 : Int) ≤ c.toNat) && decide ((c.toNat : Int) ≤ 90))) := by
    unfold isLt
    congr 1 <;> congr 1 <;> (apply decide_eq_decide.2; omega)
  rw [e]
  generalize (c.toNat : Int) = n
  by_cases h1 : 97 ≤ n
  · by_cases h2 : n ≤ 122
    · go_enter Tryd.func35, Tryd.ntmps35
      go_wp2
      go_ret
      exact ⟨ret_bool (by first | rfl | (simp; done) | (simp; omega) | (rw [Bool.eq_iff_iff]; simp; omega) | (rw [Bool.eq_iff_iff]; simp <;> omega)), rfl⟩
    · by_cases h3 : n ≤ 90
      · omega
      · go_enter Tryd.func35, Tryd.ntmps35
        go_wp2
        go_ret
        exact ⟨ret_bool (by first | rfl | (simp; done) | (simp; omega) | (rw [Bool.eq_iff_iff]; simp; omega) | (rw [Bool.eq_iff_iff]; simp <;> omega)), rfl⟩
  · by_cases h2 : 65 ≤ n
    · by_cases h3 : n ≤ 90
      · go_enter Tryd.func35, Tryd.ntmps35
        go_wp2
        go_ret
        exact ⟨ret_bool (by first | rfl | (simp; done) | (simp; omega) | (rw [Bool.eq_iff_iff]; simp; omega) | (rw [Bool.eq_iff_iff]; simp <;> omega)), rfl⟩
      · go_enter Tryd.func35, Tryd.ntmps35
        go_wp2
        go_ret
        exact ⟨ret_bool (by first | rfl | (simp; done) | (simp; omega) | (rw [Bool.eq_iff_iff]; simp; omega) | (rw [Bool.eq_iff_iff]; simp <;> omega)), rfl⟩
    · go_enter Tryd.func35, Tryd.ntmps35
      go_wp2
      go_ret
      exact ⟨ret_bool (by first | rfl | (simp; done) | (simp; omega) | (rw [Bool.eq_iff_iff]; simp; omega) | (rw [Bool.eq_iff_iff]; simp <;> omega)), rfl⟩
/-- An answer of a name. -/
def ansG (o : Option (List UInt8)) : Ending := .returned (.tuple #[.string ⟨(o.getD []).toArray⟩, .bool o.isSome])
set_option maxHeartbeats 2000000 in
theorem numbered_says (name : ByteArray) (w : World) (_hn : name.size ≤ maxLen) :
    Calls Tryd.prog 37 #[.string name] w fun e w' => e = ansG (nmP name.data.toList) ∧ Below w.heap.size w w' := by
  have hcp := Tryd.strings_CutPrefix name ⟨#[117, 110, 105]⟩ w
  have hne : name.data.toList.length = name.size := by simp
  by_cases h1 : [117, 110, 105].isPrefixOf name.data.toList = true
  · have e1 : Lib.hasPrefix name.data.toList (⟨#[117, 110, 105]⟩ : ByteArray).data.toList = true := h1
    have e2 : Lib.trimPrefix name.data.toList (⟨#[117, 110, 105]⟩ : ByteArray).data.toList = name.data.toList.drop 3 := by unfold Lib.trimPrefix; rw [if_pos e1]; rfl
    rw [e1, e2] at hcp
    obtain ⟨D, hD⟩ : ∃ D : ByteArray, D = ⟨(name.data.toList.drop 3).toArray⟩ := ⟨_, rfl⟩
    have hDl : D.data.toList = name.data.toList.drop 3 := by rw [hD]
    have hDs : D.size = (name.data.toList.drop 3).length := by rw [← hDl]; simp
    rw [← hD] at hcp
    by_cases h2 : (name.data.toList.drop 3).length = 4
    · have ht := fun W => Tryd.strings_Trim_set D ⟨#[48, 49, 50, 51, 52, 53, 54, 55, 56, 57, 65, 66, 67, 68, 69, 70]⟩ W (by omega) (by decide) (by
        intro j b hj
        have : b ∈ hxS := List.mem_of_getElem? hj
        have q : ∀ b ∈ hxS, b.toNat < 128 := by decide
        exact q b this)
      obtain ⟨T, hT⟩ : ∃ T : ByteArray, T = ⟨(Lib.trimS D.data.toList hxS).toArray⟩ := ⟨_, rfl⟩
      have ht' : ∀ W, Calls Tryd.prog 61 #[.string D, .string ⟨#[48, 49, 50, 51, 52, 53, 54, 55, 56, 57, 65, 66, 67, 68, 69, 70]⟩] W fun e w' => e = .returned (.string T) ∧ Below W.heap.size W w' := fun W => by rw [hT]; exact ht W
      have hall : (name.data.toList.drop 3).all (hxS.contains ·) = (name.data.toList.drop 3).all isHx := by congr 1; funext c; exact hx_set c
      have HT := hid ht'
      have hd4 : (D.size : Int) = 4 := by omega
      have hTl : T.toList = Lib.trimS D.data.toList hxS := by rw [hT, ByteArray.toList_eq]
      by_cases h3 : (name.data.toList.drop 3).all isHx = true
      · have hTe : T.toList.isEmpty = true := by rw [hTl, hDl, (trimS_nil _ _).2 (hall.trans h3)]; rfl
        have hu : unD name.data.toList = some ((name.data.toList.drop 3).map hv) := by unfold unD; rw [if_pos ⟨h1, h2, h3⟩]
        obtain ⟨q1, q2, q3⟩ := unD_dgt hu
        have hp := fun W => parseInt4 D _ W (hDl.trans q1) q2 q3
        have hlt : hxN ((name.data.toList.drop 3).map hv) < 65536 := by have := hxN_take _ 4 (by omega) q2; rwa [List.take_of_length_le (by omega)] at this
        have hnm : nmP name.data.toList = if okR (hxN ((name.data.toList.drop 3).map hv)) then some (encR (hxN ((name.data.toList.drop 3).map hv))) else none := by unfold nmP; rw [hu]
        rw [hnm]
        generalize hxN ((name.data.toList.drop 3).map hv) = N at *
        have HP := hid hp
        have hN : (N : Int) < 65536 := by omega
        clear hp hu q1 q2 q3 hnm ht ht' hT hTl hall h1 h2 h3 hD hDl hDs e1 e2 hne
        by_cases hok : okR N
        · rw [if_pos hok]
          have hv1 : Lib.validRune (N : Int) = true := by unfold okR at hok; unfold Lib.validRune; exact decide_eq_true (by omega)
          have HE := hid (encLen N hok)
          have hv2 := Tryd.utf8_ValidRune (N : Int)
          rw [hv1] at hv2
          clear hok hv1
          go_enter Tryd.func37, Tryd.ntmps37
          go_wp2_with (go_at_call 60; fail)
          go_at_call 60
          refine hcp.mono ?_
          rintro e w1 ⟨rfl, rfl⟩
          go_wp2_with (go_at_call 61; fail)
          go_at_call 61
          refine (HT.out _).mono ?_
          rintro e w2 ⟨rfl, hb2⟩
          go_wp2_with (go_at_call 62; fail)
          go_at_call 62
          refine (HP.out _).mono ?_
          rintro e w3 ⟨rfl, hb3⟩
          have hB3 := chn' hb2 hb3
          clear hb2 hb3 HT HP hcp
          go_wp2_with (go_at_call 63; refine (hv2 _).mono ?_; rintro e w9 ⟨rfl, rfl⟩)
          go_ret2
          refine ⟨?_, hB3⟩
          have E : Utf8.encode (N : Int) = ⟨(encR N).toArray⟩ := by apply Go.WideShapes.bytes_inj; simpa using HE.out
          show Ending.returned (.tuple #[.string (Utf8.encode (N : Int)), .bool true]) = _
          rw [E]; rfl
        · rw [if_neg hok]
          have hv1 : Lib.validRune (N : Int) = false := by unfold okR at hok; unfold Lib.validRune; exact decide_eq_false (by omega)
          have hv2 := Tryd.utf8_ValidRune (N : Int)
          rw [hv1] at hv2
          clear hok hv1
          go_enter Tryd.func37, Tryd.ntmps37
          go_wp2_with (go_at_call 60; fail)
          go_at_call 60
          refine hcp.mono ?_
          rintro e w1 ⟨rfl, rfl⟩
          go_wp2_with (go_at_call 61; fail)
          go_at_call 61
          refine (HT.out _).mono ?_
          rintro e w2 ⟨rfl, hb2⟩
          go_wp2_with (go_at_call 62; fail)
          go_at_call 62
          refine (HP.out _).mono ?_
          rintro e w3 ⟨rfl, hb3⟩
          have hB3 := chn' hb2 hb3
          clear hb2 hb3 HT HP hcp
          go_wp2_with (go_at_call 63; refine (hv2 _).mono ?_; rintro e w9 ⟨rfl, rfl⟩)
          go_ret2
          exact ⟨rfl, hB3⟩
      · have hTe : T.toList.isEmpty = false := by
          rw [hTl, hDl]
          cases hh : Lib.trimS (name.data.toList.drop 3) hxS with
          | nil => exact absurd (hall.symm.trans ((trimS_nil _ _).1 hh)) h3
          | cons _ _ => rfl
        have hnm : nmP name.data.toList = none := by unfold nmP unD; rw [if_neg (fun q => h3 q.2.2)]
        rw [hnm]
        clear hnm ht ht' hT hTl hall h1 h2 h3 hD hDl hDs e1 e2 hne
        go_enter Tryd.func37, Tryd.ntmps37
        go_wp2_with (go_at_call 60; fail)
        go_at_call 60
        refine hcp.mono ?_
        rintro e w1 ⟨rfl, rfl⟩
        go_wp2_with (go_at_call 61; fail)
        go_at_call 61
        refine (HT.out _).mono ?_
        rintro e w2 ⟨rfl, hb2⟩
        clear HT hcp
        go_wp2_with fail
        go_ret2
        exact ⟨rfl, hb2⟩
    · have hnm : nmP name.data.toList = none := by unfold nmP unD; rw [if_neg (fun q => h2 q.2.1)]
      rw [hnm]
      have hd4 : ¬ (D.size : Int) = 4 := by omega
      have hd5 : ((D.size : Int) == 4) = false := by simpa using hd4
      clear hnm h1 h2 hD hDl hDs e1 e2 hne
      go_enter Tryd.func37, Tryd.ntmps37
      go_wp2_with (go_at_call 60; fail)
      go_at_call 60
      refine hcp.mono ?_
      rintro e w1 ⟨rfl, rfl⟩
      clear hcp
      go_wp2_with fail
      go_ret2
      exact ⟨rfl, Below.refl _ _⟩
  · have e1 : Lib.hasPrefix name.data.toList (⟨#[117, 110, 105]⟩ : ByteArray).data.toList = false := by
      cases hh : Lib.hasPrefix name.data.toList (⟨#[117, 110, 105]⟩ : ByteArray).data.toList with
      | true => exact absurd hh h1
      | false => rfl
    rw [e1] at hcp
    have hnm : nmP name.data.toList = none := by unfold nmP unD; rw [if_neg (fun q => h1 q.1)]
    rw [hnm]
    generalize (⟨(Lib.trimPrefix name.data.toList (⟨#[117, 110, 105]⟩ : ByteArray).data.toList).toArray⟩ : ByteArray) = D at hcp
    clear hnm h1 e1 hne
    go_enter Tryd.func37, Tryd.ntmps37
    go_wp2_with (go_at_call 60; fail)
    go_at_call 60
    refine hcp.mono ?_
    rintro e w1 ⟨rfl, rfl⟩
    clear hcp
    go_wp2_with fail
    go_ret2
    exact ⟨rfl, Below.refl _ _⟩
theorem lk_vals : ∀ (ps : List (List UInt8 × Int)), (∀ p ∈ ps, 0 ≤ p.2 ∧ p.2 < 128) → ∀ k v, lk ps k = some v → 0 ≤ v ∧ v < 128
  | [], _, k, v, h => by cases h
  | p :: ps, hp, k, v, h => by
    have el : lk (p :: ps) k = (match lk ps k with | some v => some v | none => if p.1 = k then some p.2 else none) := rfl
    rw [el] at h
    cases hl : lk ps k with
    | some u => rw [hl] at h; injection h with h; subst h; exact lk_vals ps (fun q hq => hp q (by simp [hq])) k u hl
    | none =>
      rw [hl] at h
      simp only at h
      split at h
      · injection h with h; subst h; exact hp p (by simp)
      · cases h
theorem tbl_vals {k : List UInt8} {v : Int} (h : lk tbl k = some v) : 0 ≤ v ∧ v < 128 := lk_vals tbl (by decide) k v h
theorem glP_other {l : List UInt8} (h : ∀ c, l = [c] → isLt c = false) : glP l = glQ l := by
  match l, h with
  | [], _ => rfl
  | [c], h => show (if isLt c then some [c] else glQ [c]) = _; rw [h c rfl]; rfl
  | a :: b :: r, _ => rfl
set_option maxHeartbeats 2000000 in
theorem glQ_says (name : ByteArray) (w : World) (hn : name.size ≤ maxLen) (hsel : (name.size : Int) ≠ 1 ∨ ∃ h : 0 < name.size, (name.size : Int) = 1 ∧ isLt name[0] = false) :
    Calls Tryd.prog 17 #[.string name] w fun e w' => e = ansG (glQ name.data.toList) ∧ Below w.heap.size w w' := by
  have hcl := called_says w
  have hnum := fun W => numbered_says name W hn
  have hz := zeroRune
  have hkey : keyOf Tryd.prog 9 (.string name) = some (.string name.data.toList) := keyOf_string_mk Tryd.underlying9 hn
  have HM := hid (fun (W : World) (h : W.ownsMap Tryd.prog 9 (plainElem (H := Unit) Tryd.prog 21) w.heap.size 15 tblD) => by
    obtain ⟨v, ps, hr, hv⟩ := h.look_ok lawS Tryd.underlying83 (hz W) (zd := .lit (.int .i32 0)) (zp := []) (plainElem_int Tryd.underlying21 (by decide)) hkey
    rw [tbl_at] at hv
    obtain ⟨c, rfl, hc, _⟩ := plainElem_int_inv Tryd.underlying21 hv
    rw [tbl_has] at hr
    have hc' := congrArg Prod.fst hc
    simp only [DataW.lit.injEq, Lit.int.injEq, true_and] at hc'
    rw [← hc'] at hr
    exact hr)
  have HNM := hid hnum
  have HC := hid hcl
  clear hcl hnum hz hkey hn
  cases hl : lk tbl name.data.toList with
  | some r =>
    have hg : glQ name.data.toList = some (encR r.toNat) := by unfold glQ; rw [hl]
    rw [hg]
    obtain ⟨r0, r1⟩ := tbl_vals hl
    rw [hl] at HM
    simp only [Option.getD_some, Option.isSome_some] at HM
    have E : Utf8.encode r = ⟨(encR r.toNat).toArray⟩ := by
      apply Go.WideShapes.bytes_inj
      have q := encLen r.toNat (.inl (by omega))
      rw [show ((r.toNat : Nat) : Int) = r by omega] at q
      simpa using q
    have HE := hid E
    clear hl hg E
    rcases hsel with h1 | ⟨h0, h1, h2⟩
    · have h1' : ((name.size : Int) == 1) = false := by simpa using h1
      go_enter Tryd.func17, Tryd.ntmps17
      go_wp2_with (go_at_call 36; fail)
      go_at_call 36
      refine HC.out.mono ?_
      rintro e w1 ⟨rfl, ho, hb⟩
      have hlk := HM.out w1 ho
      clear ho HM HC
      go_wp2_with fail
      go_ret2
      refine ⟨?_, hb⟩
      show Ending.returned (.tuple #[.string (Utf8.encode r), .bool true]) = _
      rw [HE.out]; rfl
    · have HLT := hid (fun W => by have q := letter_says name[0] W; rw [h2] at q; exact q)
      clear h2
      go_enter Tryd.func17, Tryd.ntmps17
      go_wp2_with (go_at_call 35; refine (HLT.out _).mono ?_; rintro e w9 ⟨rfl, rfl⟩)
      refine HC.out.mono ?_
      rintro e w1 ⟨rfl, ho, hb⟩
      have hlk := HM.out w1 ho
      clear ho HM HC
      go_wp2_with fail
      go_ret2
      refine ⟨?_, hb⟩
      show Ending.returned (.tuple #[.string (Utf8.encode r), .bool true]) = _
      rw [HE.out]; rfl
  | none =>
    have hg : glQ name.data.toList = nmP name.data.toList := by unfold glQ; rw [hl]
    rw [hg]
    rw [hl] at HM
    simp only [Option.getD_none, Option.isSome_none] at HM
    clear hl hg
    rcases hsel with h1 | ⟨h0, h1, h2⟩
    · have h1' : ((name.size : Int) == 1) = false := by simpa using h1
      go_enter Tryd.func17, Tryd.ntmps17
      go_wp2_with (go_at_call 36; fail)
      go_at_call 36
      refine HC.out.mono ?_
      rintro e w1 ⟨rfl, ho, hb⟩
      have hlk := HM.out w1 ho
      clear ho HM HC
      go_wp2_with (go_at_call 37; fail)
      go_at_call 37
      refine (HNM.out _).mono ?_
      rintro e w2 ⟨rfl, hb2⟩
      unfold ansG
      go_wp2_with fail
      go_ret2
      exact ⟨rfl, chn' hb hb2⟩
    · have HLT := hid (fun W => by have q := letter_says name[0] W; rw [h2] at q; exact q)
      clear h2
      go_enter Tryd.func17, Tryd.ntmps17
      go_wp2_with (go_at_call 35; refine (HLT.out _).mono ?_; rintro e w9 ⟨rfl, rfl⟩)
      refine HC.out.mono ?_
      rintro e w1 ⟨rfl, ho, hb⟩
      have hlk := HM.out w1 ho
      clear ho HM HC
      go_wp2_with (go_at_call 37; fail)
      go_at_call 37
      refine (HNM.out _).mono ?_
      rintro e w2 ⟨rfl, hb2⟩
      unfold ansG
      go_wp2_with fail
      go_ret2
      exact ⟨rfl, chn' hb hb2⟩
end Go.Proofs.YtggojafapieliabDoor
