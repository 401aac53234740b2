/-
  Filters of the program: names, what is too much, digits to the base 16.
-/
import Derived.Test.YtemegkdfenjefaaAp
import Derived.Test.YtemegkdfenjefaaQb
import Derived.Test.YtemegkdfenjefaaRa
import Derived.Deep.RegionLaw
import Derived.Deep.DrawnRows
import Derived.Deep.QuietTactic
import Derived.BigQuiet
namespace Go.Proofs.Ytemegkdfenjefaa
open Go.RowKit
set_option maxRecDepth 100000


theorem ne_lit {n : ByteArray} {l : List UInt8} (h : ¬ n = ⟨l.toArray⟩) : (n.toList == l) = false := by
  rw [ByteArray.toList_eq, beq_eq_false_iff_ne]
  intro e; apply h; subst e; rfl
def knownF (n : ByteArray) : Bool := decide (n = hexN) || decide (n = fiveN) || decide (n = runsN)
theorem pKnown (n : ByteArray) (w : World) :
    Calls Try.prog 6 #[.string n] w fun e w' => e = .returned (.bool (knownF n)) ∧ w' = w := by
  have HK := hid (show knownF n = (decide (n = hexN) || decide (n = fiveN) || decide (n = runsN)) from rfl)
  unfold hexN fiveN runsN at HK
  go_enter Try.func6, Try.ntmps6
  by_cases h1 : n = ⟨#[65, 83, 67, 73, 73, 72, 101, 120, 68, 101, 99, 111, 100, 101]⟩
  · have HH := hid h1
    subst h1
    go_wp2
    go_ret
    exact ⟨rfl, rfl⟩
  by_cases h2 : n = ⟨#[65, 83, 67, 73, 73, 56, 53, 68, 101, 99, 111, 100, 101]⟩
  · subst h2
    go_wp2
    go_ret
    exact ⟨rfl, rfl⟩
  by_cases h3 : n = ⟨#[82, 117, 110, 76, 101, 110, 103, 116, 104, 68, 101, 99, 111, 100, 101]⟩
  · subst h3
    go_wp2
    go_ret
    exact ⟨rfl, rfl⟩
  have HF := hid (show knownF n = false by rw [HK.out, decide_eq_false h1, decide_eq_false h2, decide_eq_false h3]; rfl)
  have b1 := ne_lit (l := [65, 83, 67, 73, 73, 72, 101, 120, 68, 101, 99, 111, 100, 101]) h1
  have b2 := ne_lit (l := [65, 83, 67, 73, 73, 56, 53, 68, 101, 99, 111, 100, 101]) h2
  have b3 := ne_lit (l := [82, 117, 110, 76, 101, 110, 103, 116, 104, 68, 101, 99, 111, 100, 101]) h3
  clear h1 h2 h3
  go_wp2
  go_ret
  exact ⟨ret_bool HF.out.symm, rfl⟩
theorem rKnown (n : ByteArray) (w : World) :
    Calls Try.prog 7 #[.string n] w fun e w' => e = .returned (.bool (knownF n)) ∧ w' = w := by
  have HK := hid (show knownF n = (decide (n = hexN) || decide (n = fiveN) || decide (n = runsN)) from rfl)
  unfold hexN fiveN runsN at HK
  go_enter Try.func7, Try.ntmps7
  by_cases h1 : n = ⟨#[65, 83, 67, 73, 73, 72, 101, 120, 68, 101, 99, 111, 100, 101]⟩
  · have HH := hid h1
    subst h1
    go_wp2
    go_ret
    exact ⟨rfl, rfl⟩
  by_cases h2 : n = ⟨#[65, 83, 67, 73, 73, 56, 53, 68, 101, 99, 111, 100, 101]⟩
  · subst h2
    go_wp2
    go_ret
    exact ⟨rfl, rfl⟩
  by_cases h3 : n = ⟨#[82, 117, 110, 76, 101, 110, 103, 116, 104, 68, 101, 99, 111, 100, 101]⟩
  · subst h3
    go_wp2
    go_ret
    exact ⟨rfl, rfl⟩
  have HF := hid (show knownF n = false by rw [HK.out, decide_eq_false h1, decide_eq_false h2, decide_eq_false h3]; rfl)
  have b1 := ne_lit (l := [65, 83, 67, 73, 73, 72, 101, 120, 68, 101, 99, 111, 100, 101]) h1
  have b2 := ne_lit (l := [65, 83, 67, 73, 73, 56, 53, 68, 101, 99, 111, 100, 101]) h2
  have b3 := ne_lit (l := [82, 117, 110, 76, 101, 110, 103, 116, 104, 68, 101, 99, 111, 100, 101]) h3
  clear h1 h2 h3
  go_wp2
  go_ret
  exact ⟨ret_bool HF.out.symm, rfl⟩
def chkE (n m : Nat) : Int := if 8 < n ∨ 20000 < m then 2 else 0
theorem pCheck (a : Option Addr) (n c : Nat) (s : ByteArray) (w : World) (hn : n ≤ maxLen) (hs : s.size ≤ maxLen) :
    Calls Try.prog 13 #[.slice a n c, .string s] w fun e w' => e = .returned (errN (chkE n s.size)) ∧ w' = w := by
  unfold maxLen at hn hs
  go_enter Try.func13, Try.ntmps13
  by_cases h1 : (8 : Int) < n
  · have HC := hid (show chkE n s.size = 2 by unfold chkE; rw [if_pos (.inl (by omega))])
    go_wp2
    go_ret
    exact ⟨by rw [HC.out]; rfl, rfl⟩
  by_cases h2 : (20000 : Int) < s.size
  · have HC := hid (show chkE n s.size = 2 by unfold chkE; rw [if_pos (.inr (by omega))])
    go_wp2
    go_ret
    exact ⟨by rw [HC.out]; rfl, rfl⟩
  have HC := hid (show chkE n s.size = 0 by unfold chkE; rw [if_neg (by omega)])
  go_wp2
  go_ret
  exact ⟨by rw [HC.out]; rfl, rfl⟩
theorem pFits (k : Int) (B : Nat) (v : Value) (xs : List UInt8) (w : World) (hown : Own8 w B v xs) (hl : xs.length ≤ 1000000000) :
    Calls Try.prog 18 #[v, errN k] w fun e w' => e = .returned (.tuple #[.string ⟨(fit (k, xs)).2.toArray⟩, errN (fit (k, xs)).1]) ∧ w' = w := by
  by_cases hk : k = 0
  · subst hk
    rw [errN_0]
    have hcv := own8_conv hown
    obtain ⟨a, c, rfl⟩ : ∃ a c, v = .slice a xs.length c := by
      obtain ⟨_, ⟨rfl, h⟩ | ⟨g, cap, cur, rfl, _⟩⟩ := hown
      · exact ⟨none, 0, by rw [show xs.length = 0 from h.symm ▸ rfl]⟩
      · exact ⟨_, _, rfl⟩
    by_cases h : (20000 : Int) < xs.length
    · have HF := hid (show fit (0, xs) = (2, []) by unfold fit; rw [if_neg (by simp), if_pos (by simp; omega)])
      go_enter Try.func18, Try.ntmps18
      go_wp2
      go_ret2
      exact ⟨by rw [HF.out]; rfl, rfl⟩
    · have HF := hid (show fit (0, xs) = (0, xs) by unfold fit; rw [if_neg (by simp), if_neg (by simp; omega)])
      go_enter Try.func18, Try.ntmps18
      go_wp2
      go_ret2
      exact ⟨by rw [HF.out]; rfl, rfl⟩
  · rw [errN_pos hk]
    have HF := hid (show fit (k, xs) = (k, []) by unfold fit; rw [if_pos (by simpa using hk)])
    unfold errV
    go_enter Try.func18, Try.ntmps18
    go_wp2
    go_ret2
    exact ⟨by rw [HF.out]; show _ = Ending.returned (.tuple #[_, errN k]); rw [errN_pos hk]; rfl, rfl⟩
theorem and15 (c : UInt8) : bits .and .u8 (c.toNat : Int) 15 = (c.toNat : Int) % 16 := by
  have h : ∀ x : Fin 256, bits .and .u8 (x.1 : Int) 15 = (x.1 : Int) % 16 := by decide
  exact h ⟨c.toNat, c.toNat_lt⟩
theorem hexD_tbl (a : Nat) (h : a < 16) : (⟨#[48, 49, 50, 51, 52, 53, 54, 55, 56, 57, 65, 66, 67, 68, 69, 70]⟩ : ByteArray)[a]'h = hexD a := by
  have : ∀ x : Fin 16, (⟨#[48, 49, 50, 51, 52, 53, 54, 55, 56, 57, 65, 66, 67, 68, 69, 70]⟩ : ByteArray)[x.1]'x.2 = hexD x.1 := by decide
  exact this ⟨a, h⟩
theorem flatH_len (l : List UInt8) : (l.flatMap hexB).length = 2 * l.length := by
  have := hexMk_len l; unfold hexMk at this; simp at this ⊢; omega
set_option maxHeartbeats 1000000 in
theorem pMakeHex (s : ByteArray) (w : World) (hs : s.size ≤ 100000) :
    Calls Try.prog 19 #[.string s] w fun e w' => ∃ v', e = .returned v' ∧ Own8 w' w.heap.size v' (hexMk s.data.toList) ∧ Below w.heap.size w w' := by
  go_enter Try.func19, Try.ntmps19
  go_wp2
  go_loopw [3, 7] (fun t i wr => ∃ k : Nat, i = .int .i64 k ∧ k ≤ s.size ∧ Own8 wr w.heap.size t ((s.data.toList.take k).flatMap hexB) ∧ Below w.heap.size w wr) (fun _ i _ => s.size - (intOf i).toNat)
  case atStart => exact ⟨0, rfl, Nat.zero_le _, by simpa using Own8.nil _ _, Below.refl _ _⟩
  case round =>
    obtain ⟨k, rfl, hk, hown, hb⟩ := hrel
    have hbs := hb.size
    have hfl2 : ((s.data.toList.take k).flatMap hexB).length ≤ 400000 := by
      have hfl := flatH_len (s.data.toList.take k)
      have : (s.data.toList.take k).length ≤ s.size := by simp; omega
      omega
    generalize hpre : (s.data.toList.take k).flatMap hexB = pre at *
    have HPR := hid hpre
    clear hpre
    by_cases hlt : k < s.size
    · have HT := hid (take_snoc s k hlt)
      have hc256 := s[k].toNat_lt
      have ex : ∃ a b : Nat, (s[k].toNat : Int) / 16 = a ∧ (s[k].toNat : Int) % 16 = b ∧ a < 16 ∧ b < 16 ∧ s[k].toNat / 16 = a ∧ s[k].toNat % 16 = b := ⟨s[k].toNat / 16, s[k].toNat % 16, by omega, by omega, by omega, by omega, rfl, rfl⟩
      obtain ⟨a, b, ea, eb, la, lb, na, nb⟩ := ex
      have HAB := hid (And.intro na nb)
      clear na nb
      have la' : (a : Int) < 16 := by omega
      have lb' : (b : Int) < 16 := by omega
      have h15 : bits .and .u8 (s[k].toNat : Int) 15 = (b : Int) := by rw [and15, eb]
      have HE := hid (show hexB s[k] = [hexD a, hexD b] by unfold hexB; rw [HAB.out.1, HAB.out.2])
      go_wp2_with fail
      go_region_law ((refine stepApp8g (by rfl) (.tmp 10) (.tmp 21) (by rfl) w.heap.size _ pre (by rfl) (by exact hown.alloc _) wr.heap.size [hexD a, hexD b] 2 2 (by rfl) (0, 0) (by rfl) _ (by rw [← hexD_tbl a la, ← hexD_tbl b lb]) (by exact heap_alloc_new _ _) (by simp; omega) (by simp; omega) ?_; intro v2 w2 hown2 hk2))
      all_goals
        have hb2 := hb.trans (hk2.undrew.unalloc.kept hown hbs).below
        clear hown hk2 hb
        go_wp2
        go_roundw
        case rel =>
          refine ⟨k + 1, by go_num, by omega, ?_, hb2⟩
          rw [HT.out, List.flatMap_append, HPR.out, List.flatMap_singleton, HE.out]
          simpa using hown2
        case measure => simp [intOf]; omega
    · have hke : k = s.size := by omega
      have HPE := hid (show hexMk s.data.toList = pre ++ [62] by have := HPR.out; rw [hke, List.take_of_length_le (by simp)] at this; unfold hexMk; rw [this])
      go_wp2_with (at_builtin; refine wpApp8 rfl (.tmp 24) (.tmp 25) rfl w.heap.size _ pre rfl hown _ [62] 1 1 rfl rfl rfl (by omega) hbs ?_)
      intro v1 w1 hown1 hk1
      go_wp2
      go_ret
      refine ⟨_, rfl, ?_, hb.trans hk1.below⟩
      rw [HPE.out]
      exact hown1
end Go.Proofs.Ytemegkdfenjefaa
