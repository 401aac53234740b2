/-
  What a name of a sign stands for: the document's answer.
-/
import Derived.Test.YtggojafapieliabDoorGe
import Derived.Test.YtggojafapieliabDoorRg
import Derived.Test.YtggojafapieliabDoorCj
namespace Go.Proofs.YtggojafapieliabDoor
open Go.RowKit
set_option maxRecDepth 100000
attribute [local go_sem ↓] Go.wp_at_zero Go.wp_at_succ

def key (k : Nat) : List UInt8 := (tbl.getD k ([], 0)).1
def kval (k : Nat) : Int := (tbl.getD k ([], 0)).2
def nmC : Array Value := #[.string ⟨#[115, 112, 97, 99, 101]⟩, .string ⟨#[112, 101, 114, 105, 111, 100]⟩, .string ⟨#[99, 111, 109, 109, 97]⟩, .string ⟨#[104, 121, 112, 104, 101, 110]⟩, .string ⟨#[99, 111, 108, 111, 110]⟩, .string ⟨#[122, 101, 114, 111]⟩, .string ⟨#[111, 110, 101]⟩, .string ⟨#[116, 119, 111]⟩, .string ⟨#[116, 104, 114, 101, 101]⟩, .string ⟨#[102, 111, 117, 114]⟩, .string ⟨#[102, 105, 118, 101]⟩, .string ⟨#[115, 105, 120]⟩, .string ⟨#[115, 101, 118, 101, 110]⟩, .string ⟨#[101, 105, 103, 104, 116]⟩, .string ⟨#[110, 105, 110, 101]⟩]
def sgS : ByteArray := ⟨#[32, 46, 44, 45, 58, 48, 49, 50, 51, 52, 53, 54, 55, 56, 57]⟩
theorem nmC_at : ∀ k, k < 15 → nmC[k]? = some (.string ⟨(key k).toArray⟩) := fun k hk => match k, hk with
  | 0, _ => rfl
  | 1, _ => rfl
  | 2, _ => rfl
  | 3, _ => rfl
  | 4, _ => rfl
  | 5, _ => rfl
  | 6, _ => rfl
  | 7, _ => rfl
  | 8, _ => rfl
  | 9, _ => rfl
  | 10, _ => rfl
  | 11, _ => rfl
  | 12, _ => rfl
  | 13, _ => rfl
  | 14, _ => rfl
  | n + 15, h => absurd h (by omega)
theorem sgS_at : ∀ k, k < 15 → sgS.extract k (k + 1) = ⟨(encR (kval k).toNat).toArray⟩ := fun k hk => match k, hk with
  | 0, _ => by decide
  | 1, _ => by decide
  | 2, _ => by decide
  | 3, _ => by decide
  | 4, _ => by decide
  | 5, _ => by decide
  | 6, _ => by decide
  | 7, _ => by decide
  | 8, _ => by decide
  | 9, _ => by decide
  | 10, _ => by decide
  | 11, _ => by decide
  | 12, _ => by decide
  | 13, _ => by decide
  | 14, _ => by decide
  | n + 15, h => absurd h (by omega)
theorem lk_key : ∀ k, k < 15 → lk tbl (key k) = some (kval k) := fun k hk => match k, hk with
  | 0, _ => rfl
  | 1, _ => rfl
  | 2, _ => rfl
  | 3, _ => rfl
  | 4, _ => rfl
  | 5, _ => rfl
  | 6, _ => rfl
  | 7, _ => rfl
  | 8, _ => rfl
  | 9, _ => rfl
  | 10, _ => rfl
  | 11, _ => rfl
  | 12, _ => rfl
  | 13, _ => rfl
  | 14, _ => rfl
  | n + 15, h => absurd h (by omega)
theorem lk_mem : ∀ (ps : List (List UInt8 × Int)) (l : List UInt8) (v : Int), lk ps l = some v → ∃ p ∈ ps, p.1 = l
  | [], l, v, h => by cases h
  | p :: ps, l, v, h => by
    have el : lk (p :: ps) l = (match lk ps l with | some v => some v | none => if p.1 = l then some p.2 else none) := rfl
    rw [el] at h
    cases hl : lk ps l with
    | some u => obtain ⟨q, hq, e⟩ := lk_mem ps l u hl; exact ⟨q, by simp [hq], e⟩
    | none =>
      rw [hl] at h
      simp only at h
      split at h
      · rename_i hp; exact ⟨p, by simp, hp⟩
      · cases h
theorem lk_none {l : List UInt8} (h : ∀ j, j < 15 → key j ≠ l) : lk tbl l = none := by
  cases hl : lk tbl l with
  | none => rfl
  | some v =>
    obtain ⟨p, hp, e⟩ := lk_mem tbl l v hl
    obtain ⟨i, hi, hpi⟩ := List.mem_iff_getElem.1 hp
    refine absurd ?_ (h i hi)
    unfold key
    rw [List.getD_eq_getElem?_getD, List.getElem?_eq_getElem hi]
    show tbl[i].1 = l
    rw [hpi]; exact e
theorem key_long : ∀ k, k < 15 → (key k).length ≠ 1 := fun k hk => match k, hk with
  | 0, _ => by decide
  | 1, _ => by decide
  | 2, _ => by decide
  | 3, _ => by decide
  | 4, _ => by decide
  | 5, _ => by decide
  | 6, _ => by decide
  | 7, _ => by decide
  | 8, _ => by decide
  | 9, _ => by decide
  | 10, _ => by decide
  | 11, _ => by decide
  | 12, _ => by decide
  | 13, _ => by decide
  | 14, _ => by decide
  | n + 15, h => absurd h (by omega)
theorem hexV_hx (c : UInt8) : isHx c = true → hexV c = (hv c : Int) ∧ c.toNat < 97 := all8 (p := fun c => isHx c = true → hexV c = (hv c : Int) ∧ c.toNat < 97) (by decide +kernel) c
theorem hexV_not (c : UInt8) : isHx c = false → hexV c < 0 ∨ 97 ≤ c.toNat := all8 (p := fun c => isHx c = false → hexV c < 0 ∨ 97 ≤ c.toNat) (by decide +kernel) c
theorem strEq {a : List UInt8} {b : ByteArray} : (a == b.toList) = decide (a = b.data.toList) := by
  rw [ByteArray.toList_eq]
  by_cases h : a = b.data.toList
  · rw [decide_eq_true h]; simpa using h
  · rw [decide_eq_false h]; simpa using h
theorem strEq' {a : List UInt8} {b : ByteArray} : (b.toList == a) = decide (b.data.toList = a) := by
  rw [ByteArray.toList_eq]
  by_cases h : b.data.toList = a
  · rw [decide_eq_true h]; simpa using h
  · rw [decide_eq_false h]; simpa using h
theorem pre3 (l : List UInt8) : [117, 110, 105].isPrefixOf l = decide (l.take 3 = [117, 110, 105]) := by
  match l with
  | [] => rfl
  | [a] => simp [List.isPrefixOf]
  | [a, b] => simp [List.isPrefixOf]
  | a :: b :: c :: r =>
    simp only [List.isPrefixOf, List.take_succ_cons, List.take_zero, Bool.and_true]
    rw [Bool.eq_iff_iff]
    simp
    constructor
    · rintro ⟨rfl, rfl, rfl⟩; exact ⟨rfl, rfl, rfl⟩
    · rintro ⟨rfl, rfl, rfl⟩; exact ⟨rfl, rfl, rfl⟩
theorem at_nm {W : World} {b : Nat} (h : At W b 9 nmC) (k : Nat) (hk : k < 15) : W.cell? ⟨b, k, none⟩ = some (.string ⟨(key k).toArray⟩) := (h.cell k).trans (nmC_at k hk)
theorem hxN_b {xs : List Nat} (h : hxN (xs.take 4) < 65536) (hl : xs.length ≤ 4) : hxN xs < 65536 := by rwa [List.take_of_length_le hl] at h
theorem unD_no {L : List UInt8} (h : ¬ ([117, 110, 105].isPrefixOf L = true ∧ (L.drop 3).length = 4 ∧ (L.drop 3).all isHx = true)) : nmP L = none := by unfold nmP unD; rw [if_neg h]
set_option maxHeartbeats 1000000 in
theorem rGlyph_long (name : ByteArray) (w : World) (h1 : name.size ≠ 1) (hn : name.size ≤ maxLen) :
    Calls Tryd.prog 18 #[.string name] w fun e w' => e = ansG (glQ name.data.toList) ∧ Below w.heap.size w w' := by
  unfold maxLen at hn
  have h1' : ((name.size : Int) == 1) = false := by simp; omega
  have h1z : ¬ (name.size : Int) = 1 := by omega
  have hsz : name.data.toList.length = name.size := by simp
  obtain ⟨L, hL⟩ : ∃ L, L = name.data.toList := ⟨_, rfl⟩
  rw [← hL]
  have HL := hid (And.intro hL (hL ▸ hsz))
  clear h1 hL hsz
  go_enter Tryd.func18, Tryd.ntmps18
  go_wp2_with fail
  have hA0 : At (w.alloc (.cells nmC 9)) w.heap.size 9 nmC := At.new _ _ _ rfl
  have hB0 : Below w.heap.size w (w.alloc (.cells nmC 9)) := (Below.refl _ _).alloc (Nat.le_refl _) _
  unfold nmC at hA0 hB0
  generalize w.alloc (.cells #[.string ⟨#[115, 112, 97, 99, 101]⟩, .string ⟨#[112, 101, 114, 105, 111, 100]⟩, .string ⟨#[99, 111, 109, 109, 97]⟩, .string ⟨#[104, 121, 112, 104, 101, 110]⟩, .string ⟨#[99, 111, 108, 111, 110]⟩, .string ⟨#[122, 101, 114, 111]⟩, .string ⟨#[111, 110, 101]⟩, .string ⟨#[116, 119, 111]⟩, .string ⟨#[116, 104, 114, 101, 101]⟩, .string ⟨#[102, 111, 117, 114]⟩, .string ⟨#[102, 105, 118, 101]⟩, .string ⟨#[115, 105, 120]⟩, .string ⟨#[115, 101, 118, 101, 110]⟩, .string ⟨#[101, 105, 103, 104, 116]⟩, .string ⟨#[110, 105, 110, 101]⟩] 9) = w0 at hA0 hB0 ⊢
  have HA0 := hid (show At w0 w.heap.size 9 nmC from hA0)
  have hz0 := hA0.lt
  clear hA0
  go_loopw [6] (fun i wr => ∃ k : Nat, k ≤ 15 ∧ i = .int .i64 k ∧ Hid (∀ j, j < k → key j ≠ L) ∧ wr = w0) (fun i _ => 15 - (intOf i).toNat)
  case atStart => exact ⟨0, by omega, rfl, fun j hj => absurd hj (by omega), rfl⟩
  case round =>
    obtain ⟨k, hk, rfl, HK, rfl⟩ := hrel
    by_cases hk15 : k < 15
    · have hk' : (k : Int) < 15 := by omega
      have hc := at_nm HA0.out k hk15
      have hq := strEq (a := key k) (b := name)
      rw [← HL.out.1] at hq
      by_cases he : key k = L
      · rw [decide_eq_true he] at hq
        have HG := hid (show glQ L = some (encR (kval k).toNat) by unfold glQ; rw [← he, lk_key k hk15])
        have HS := hid (sgS_at k hk15)
        clear he
        generalize key k = kk at *
        go_wp2_with fail
        go_ret2
        refine ⟨?_, hB0⟩
        rw [HG.out]
        show Ending.returned (.tuple #[.string (sgS.extract k (k + 1)), .bool true]) = _
        rw [HS.out]; rfl
      · rw [decide_eq_false he] at hq
        have HE := hid he
        clear he
        generalize hkk : key k = kk at *
        have HKK := hid hkk
        clear hkk
        go_wp2_with fail
        go_roundw
        case rel => exact ⟨k + 1, by omega, by go_num, hid fun j hj => by
          by_cases e : j = k
          · subst e; rw [HKK.out]; exact HE.out
          · exact HK.out j (by omega), by first | rfl | trivial⟩
        case measure => simp [intOf]; omega
    · have hk15' : ¬ (k : Int) < 15 := by omega
      have HG := hid (show glQ L = nmP L by unfold glQ; rw [lk_none (fun j hj => HK.out j (by omega))])
      clear hk15 hk
      by_cases h7 : name.size = 7
      · have h7' : (name.size : Int) = 7 := by omega
        obtain ⟨T, hT⟩ : ∃ T, name.extract 0 3 = T := ⟨_, rfl⟩
        have hTl : T.data.toList = L.take 3 := by rw [← hT, HL.out.1]; simp
        have hq := strEq' (a := [117, 110, 105]) (b := T)
        rw [hTl] at hq
        by_cases hp : L.take 3 = [117, 110, 105]
        · rw [decide_eq_true hp] at hq
          have HP := hid hp
          clear hp hTl
          have HD4 := hid (show (L.drop 3).length = 4 by rw [List.length_drop, HL.out.2]; omega)
          have HPX := hid (show [117, 110, 105].isPrefixOf L = true from (pre3 L).trans (decide_eq_true HP.out))
          go_wp2_with fail
          go_loopw [7, 8] (fun nv iv w' => ∃ k : Nat, k ≤ 4 ∧ iv = .int .i64 ((3 + k : Nat) : Int) ∧ nv = .int .i64 ((hxN (((L.drop 3).take k).map hv) : Nat) : Int) ∧ Hid (∀ c ∈ (L.drop 3).take k, isHx c = true) ∧ w' = wr) (fun _ iv _ => 7 - (intOf iv).toNat)
          case atStart => exact ⟨0, by omega, rfl, rfl, fun c hc => by simp at hc, rfl⟩
          case round =>
            obtain ⟨k, hk, rfl, rfl, HX, rfl⟩ := hrel
            by_cases hk4 : k < 4
            · obtain ⟨j, hj⟩ : ∃ j, j = 3 + k := ⟨_, rfl⟩
              rw [← hj]
              have hjs : j < name.size := by omega
              have hjs' : (j : Int) < name.size := by omega
              have hj7 : (j : Int) < 7 := by omega
              obtain ⟨c, hc⟩ : ∃ c, c = name[j] := ⟨_, rfl⟩
              have hkl : k < (L.drop 3).length := by rw [HD4.out]; exact hk4
              have hcl : (L.drop 3)[k] = c := by
                rw [List.getElem_drop, hc]
                have := HL.out.1
                subst this
                subst hj
                rfl
              have HTK := hid (show (L.drop 3).take (k + 1) = (L.drop 3).take k ++ [c] by rw [List.take_succ_eq_append_getElem hkl, hcl])
              have HB := hid (hxN_take (((L.drop 3).take k).map hv) 4 (by omega) (fun x hx => by
                obtain ⟨y, hy, rfl⟩ := List.mem_map.1 hx
                exact (hv_dgt y (HX.out y hy)).2))
              have HLK := hid (show (((L.drop 3).take k).map hv).length ≤ 4 by rw [List.length_map, List.length_take]; omega)
              have hN := hxN_b HB.out HLK.out
              have HST := hid (show hxN (((L.drop 3).take (k + 1)).map hv) = 16 * hxN (((L.drop 3).take k).map hv) + hv c by rw [HTK.out, List.map_append]; exact hxN_snoc _ _)
              generalize hxN (((L.drop 3).take k).map hv) = N at *
              have HJ := hid hj
              have HCM := hid (show c ∈ L.drop 3 from hcl ▸ List.getElem_mem hkl)
              have HH := hid (fun W => rHex c W)
              have hcb : name[j] = c := hc.symm
              clear hj hcl hkl hc
              by_cases hx : isHx c = true
              · obtain ⟨e1, e2⟩ := hexV_hx c hx
                have HQ := hid (And.intro hx e1)
                have h16 := (hv_dgt c hx).2
                rw [e1] at HH
                have g1 : ¬ ((hv c : Nat) : Int) < 0 := by omega
                have g2 : ¬ (97 : Int) ≤ (c.toNat : Int) := by omega
                have g3 : wrap64 (16 * (N : Int)) = 16 * (N : Int) := by unfold wrap64; omega
                have g4 : wrap64 (16 * (N : Int) + ((hv c : Nat) : Int)) = 16 * (N : Int) + ((hv c : Nat) : Int) := by unfold wrap64; omega
                have HR := hid (show ((16 * N + hv c : Nat) : Int) = 16 * (N : Int) + ((hv c : Nat) : Int) by omega)
                clear hx e1 e2
                generalize hv c = V at *
                go_wp2_with (go_at_call 38; refine (HH.out _).mono ?_; rintro e w9 ⟨rfl, rfl⟩)
                go_roundw
                case rel =>
                  refine ⟨k + 1, by omega, ?_, ?_, ?_, by first | rfl | trivial⟩
                  · have := HJ.out; subst this; first | go_num | (congr 1; omega) | (simp; omega)
                  · rw [HST.out, HR.out]
                  · intro y hy
                    rw [HTK.out] at hy
                    rcases List.mem_append.1 hy with hy | hy
                    · exact HX.out y hy
                    · simp at hy; subst hy; exact HQ.out.1
                case measure => have := HJ.out; subst this; simp [intOf]; omega
              · have hx' : isHx c = false := by simpa using hx
                have HN := hid (unD_no (L := L) (fun q => hx (List.all_eq_true.1 q.2.2 c HCM.out)))
                by_cases hv0 : hexV c < 0
                · generalize hexV c = V at *
                  clear hx hx'
                  go_wp2_with (go_at_call 38; refine (HH.out _).mono ?_; rintro e w9 ⟨rfl, rfl⟩)
                  go_ret2
                  exact ⟨by rw [HG.out, HN.out]; rfl, hB0⟩
                · have g2 : (97 : Int) ≤ (c.toNat : Int) := by rcases hexV_not c hx' with q | q <;> omega
                  generalize hexV c = V at *
                  clear hx hx'
                  go_wp2_with (go_at_call 38; refine (HH.out _).mono ?_; rintro e w9 ⟨rfl, rfl⟩)
                  go_ret2
                  exact ⟨by rw [HG.out, HN.out]; rfl, hB0⟩
            · obtain rfl : k = 4 := by omega
              have ht : (L.drop 3).take 4 = L.drop 3 := List.take_of_length_le (by rw [HD4.out]; exact Nat.le_refl _)
              have HALL := hid (show (L.drop 3).all isHx = true by
                rw [List.all_eq_true]; intro c hc; exact HX.out c (by rw [ht]; exact hc))
              rw [ht]
              have HNM := hid (show nmP L = if okR (hxN ((L.drop 3).map hv)) then some (encR (hxN ((L.drop 3).map hv))) else none by
                unfold nmP unD; rw [if_pos ⟨HPX.out, HD4.out, HALL.out⟩])
              have HN4 := hid (show hxN ((L.drop 3).map hv) < 65536 from hxN_b (hxN_take _ 4 (by omega) (fun x hx => by
                obtain ⟨y, hy, rfl⟩ := List.mem_map.1 hx
                exact (hv_dgt y (List.all_eq_true.1 HALL.out y hy)).2)) (by rw [List.length_map, HD4.out]; exact Nat.le_refl _))
              generalize hxN ((L.drop 3).map hv) = N at *
              clear ht
              have HSG := hid (fun (W : World) (al : Option Addr) (h : Src64 W al [N]) (hok : okR N) => signs_says [N] al 1 W (by simp) (fun r hr => by simp at hr; subst hr; exact hok) h)
              have HTX := hid (show txtR [N] = encR N by unfold txtR; simp)
              by_cases hok : okR N
              · have HO := hid hok
                rw [if_pos hok] at HNM
                obtain ⟨z, hz⟩ : ∃ z : Int, ((N : Nat) : Int) = z := ⟨_, rfl⟩
                rw [hz]
                have HZ := hid hz
                have hd : decide ((55295 : Int) < z) = false ∨ (decide ((55295 : Int) < z) = true ∧ decide (z < 57344) = false) := by
                  unfold okR at hok
                  by_cases q : N < 55296
                  · exact .inl (decide_eq_false (by omega))
                  · exact .inr ⟨decide_eq_true (by omega), decide_eq_false (by omega)⟩
                clear hz hok
                rcases hd with d1 | ⟨d1, d2⟩
                all_goals
                  go_wp2_with (go_at_call 39; fail)
                  go_at_call 39
                  refine (HSG.out _ _ (fun j n hj => ?_) HO.out).mono ?_
                  · match j, hj with
                    | 0, hj => simp at hj; subst hj; exact ⟨_, _, rfl, At.new wr _ _ rfl, by rw [HZ.out]; rfl⟩
                    | j + 1, hj => simp at hj
                  · rintro e w9 ⟨rfl, hb9⟩
                    go_wp2_with fail
                    go_ret2
                    refine ⟨?_, chn' hB0 (chn' (by go_grown) hb9)⟩
                    rw [HG.out, HNM.out, HTX.out]; rfl
              · rw [if_neg hok] at HNM
                obtain ⟨z, hz⟩ : ∃ z : Int, ((N : Nat) : Int) = z := ⟨_, rfl⟩
                rw [hz]
                have d1 : decide ((55295 : Int) < z) = true := decide_eq_true (by unfold okR at hok; omega)
                have d2 : decide (z < 57344) = true := decide_eq_true (by have := HN4.out; unfold okR at hok; omega)
                clear hz hok HSG
                go_wp2_with fail
                go_ret2
                exact ⟨by rw [HG.out, HNM.out]; rfl, hB0⟩
        · rw [decide_eq_false hp] at hq
          have HN := hid (unD_no (L := L) (fun q => hp (of_decide_eq_true ((pre3 L).symm.trans q.1))))
          clear hp hTl
          go_wp2_with fail
          go_ret2
          exact ⟨by rw [HG.out, HN.out]; rfl, hB0⟩
      · have h7' : ((name.size : Int) == 7) = false := by simp; omega
        have h7z : ¬ (name.size : Int) = 7 := by omega
        have HN := hid (unD_no (L := L) (fun q => h7 (by have := HL.out.2; have := q.2.1; rw [List.length_drop] at this; omega)))
        clear h7
        go_wp2_with fail
        go_ret2
        exact ⟨by rw [HG.out, HN.out]; rfl, hB0⟩
theorem glQ_one (c : UInt8) : glQ [c] = none := by
  unfold glQ
  rw [lk_none (fun j hj e => key_long j hj (by rw [e]; rfl))]
  exact unD_no (fun q => by have := q.2.1; simp at this)
set_option maxHeartbeats 1000000 in
theorem rGlyph_one (name : ByteArray) (c : UInt8) (w : World) (h1 : name.data.toList = [c]) :
    Calls Tryd.prog 18 #[.string name] w fun e w' => e = ansG (glP [c]) ∧ Below w.heap.size w w' := by
  have hsz : name.size = 1 := by rw [show name.size = name.data.toList.length by simp, h1]; rfl
  have h0 : 0 < name.size := by omega
  have hb : name[0] = c := by
    have : name = ⟨[c].toArray⟩ := by apply Go.WideShapes.bytes_inj; simpa using h1
    subst this
    rfl
  have hs1 : (name.size : Int) = 1 := by omega
  have hg : glP [c] = if isLt c then some [c] else none := by show (if isLt c then some [c] else glQ [c]) = _; rw [glQ_one]
  rw [hg]
  have HNE := hid (show ∀ k, k < 15 → (key k == name.toList) = false from fun k hk => by rw [strEq, h1]; exact decide_eq_false (fun e => key_long k hk (by rw [e]; rfl)))
  have HNM := hid (show name = ⟨[c].toArray⟩ by apply Go.WideShapes.bytes_inj; simpa using h1)
  have hlt : isLt c = true ↔ ((97 : Int) ≤ c.toNat ∧ (c.toNat : Int) ≤ 122) ∨ ((65 : Int) ≤ c.toNat ∧ (c.toNat : Int) ≤ 90) := by unfold isLt; simp; omega
  have HC := hid hlt
  clear hg h1 hlt
  generalize hn : (c.toNat : Int) = n at *
  have hcn : (name[0].toNat : Int) = n := by rw [hb]; exact hn
  clear hn hb
  have hcase : ((97 ≤ n ∧ n ≤ 122) ∨ (65 ≤ n ∧ n ≤ 90)) ∨ n < 65 ∨ (90 < n ∧ n < 97) ∨ 122 < n := by omega
  rcases hcase with (⟨a1, a2⟩ | ⟨a1, a2⟩) | a1 | ⟨a1, a2⟩ | a1
  · have hl : isLt c = true := HC.out.2 (.inl ⟨a1, a2⟩)
    rw [hl]
    clear hl
    go_enter Tryd.func18, Tryd.ntmps18
    go_wp2_with fail
    go_ret2
    exact ⟨by rw [HNM.out]; rfl, Below.refl _ _⟩
  · have hl : isLt c = true := HC.out.2 (.inr ⟨a1, a2⟩)
    rw [hl]
    clear hl
    have a3 : ¬ 97 ≤ n := by omega
    go_enter Tryd.func18, Tryd.ntmps18
    go_wp2_with fail
    go_ret2
    exact ⟨by rw [HNM.out]; rfl, Below.refl _ _⟩
  all_goals
    have hl : isLt c = false := by
      cases h : isLt c with
      | false => rfl
      | true => exfalso; have := HC.out.1 h; omega
    rw [hl]
    clear hl HC HNM
    go_enter Tryd.func18, Tryd.ntmps18
    go_wp2_with fail
    have hA0 : At (w.alloc (.cells nmC 9)) w.heap.size 9 nmC := At.new _ _ _ rfl
    have hB0 : Below w.heap.size w (w.alloc (.cells nmC 9)) := (Below.refl _ _).alloc (Nat.le_refl _) _
    unfold nmC at hA0 hB0
    generalize w.alloc (.cells #[.string ⟨#[115, 112, 97, 99, 101]⟩, .string ⟨#[112, 101, 114, 105, 111, 100]⟩, .string ⟨#[99, 111, 109, 109, 97]⟩, .string ⟨#[104, 121, 112, 104, 101, 110]⟩, .string ⟨#[99, 111, 108, 111, 110]⟩, .string ⟨#[122, 101, 114, 111]⟩, .string ⟨#[111, 110, 101]⟩, .string ⟨#[116, 119, 111]⟩, .string ⟨#[116, 104, 114, 101, 101]⟩, .string ⟨#[102, 111, 117, 114]⟩, .string ⟨#[102, 105, 118, 101]⟩, .string ⟨#[115, 105, 120]⟩, .string ⟨#[115, 101, 118, 101, 110]⟩, .string ⟨#[101, 105, 103, 104, 116]⟩, .string ⟨#[110, 105, 110, 101]⟩] 9) = w0 at hA0 hB0 ⊢
    have HA0 := hid (show At w0 w.heap.size 9 nmC from hA0)
    have hz0 := hA0.lt
    clear hA0
    go_loopw [6] (fun i wr => ∃ k : Nat, k ≤ 15 ∧ i = .int .i64 k ∧ wr = w0) (fun i _ => 15 - (intOf i).toNat)
    case atStart => exact ⟨0, by omega, rfl, rfl⟩
    case round =>
      obtain ⟨k, hk, rfl, rfl⟩ := hrel
      by_cases hk15 : k < 15
      · have hk' : (k : Int) < 15 := by omega
        have hc := at_nm HA0.out k hk15
        have hq := HNE.out k hk15
        generalize key k = kk at *
        go_wp2_with fail
        go_roundw
        case rel => exact ⟨k + 1, by omega, by go_num, by first | rfl | trivial⟩
        case measure => simp [intOf]; omega
      · have hk15' : ¬ (k : Int) < 15 := by omega
        clear hk15 hk
        go_wp2_with fail
        go_ret2
        exact ⟨rfl, hB0⟩
theorem rGlyph_says (name : ByteArray) (w : World) (hn : name.size ≤ maxLen) :
    Calls Tryd.prog 18 #[.string name] w fun e w' => e = ansG (glP name.data.toList) ∧ Below w.heap.size w w' := by
  have hsz : name.data.toList.length = name.size := by simp
  by_cases h1 : name.size = 1
  · obtain ⟨c, hc⟩ := List.length_eq_one_iff.1 (hsz.trans h1)
    rw [hc]
    exact rGlyph_one name c w hc
  · rw [glP_other (fun c hc => by rw [hc] at hsz; exact absurd hsz.symm h1)]
    exact rGlyph_long name w h1 hn
end Go.Proofs.YtggojafapieliabDoor
