/-
  Contract: any text that is read as a number, by the program: what it is, or what is wrong with it.
-/
import Derived.Test.YtidillbpoklnjaaDoorFf
namespace Go.Proofs.YtidillbpoklnjaaDoor
open Go.RowKit
set_option maxRecDepth 100000

theorem startsB_nil {s : ByteArray} (h : s.data.toList = []) (c : UInt8) : startsB s c = false := by unfold startsB; rw [h]; rfl
theorem startsB_cons {s : ByteArray} {d : UInt8} {l : List UInt8} (h : s.data.toList = d :: l) (c : UInt8) : startsB s c = (c == d) := by
  unfold startsB; rw [h]; simp [Lib.hasPrefix, List.isPrefixOf]
theorem tail_list {s : ByteArray} {d : UInt8} {l : List UInt8} (h : s.data.toList = d :: l) : (s.extract 1 s.size).data.toList = l := by
  have hl : s.size = l.length + 1 := by have := congrArg List.length h; simpa using this
  rw [Lib.extract_data]
  simp [h, hl]
theorem size_list {s : ByteArray} {L : List UInt8} (h : s.data.toList = L) : s.size = L.length := by rw [← h]; simp
theorem parts_len (r : List UInt8) : (wholeOf r).length ≤ r.length ∧ (partOf r).length ≤ r.length := by
  constructor
  · exact (List.takeWhile_sublist _).length_le
  · unfold partOf; rw [List.length_drop]; have := (List.dropWhile_sublist (l := r) (· != 46)).length_le; omega

/-- The cut at the point, of whatever text. -/
theorem cut_any (R : ByteArray) (r : List UInt8) (w : World) (hr : R.data.toList = r) (hs : R.size ≤ 1000) (m : Int) (hm : w.cell? ⟨0, 0, none⟩ = some (.int .i64 m)) :
    Calls Tryd.prog 53 #[.string R, .string ⟨#[46]⟩] w fun e w' => e = .returned (.tuple #[.string ⟨(wholeOf r).toArray⟩, .string ⟨(partOf r).toArray⟩, .bool (Lib.cut r [46]).2.2]) ∧ ∃ n, w' = w.drewN n := by
  have h := Tryd.strings_Cut R ⟨#[46]⟩ m w (by omega) hm
  rw [hr] at h
  have hc := cut_dot r
  rw [show (⟨#[46]⟩ : ByteArray).data.toList = [46] from rfl, hc.1, hc.2] at h
  exact h

theorem parseE_text {s : List UInt8} (h : goodF (bodyF s) = false) : parseE s = 4 ∧ parseN s = 0 := by
  have : parseE s = 4 := by unfold parseE; rw [if_pos h]
  exact ⟨this, by unfold parseN; rw [this]; rfl⟩
theorem parseE_big {s : List UInt8} (h : goodF (bodyF s) = true) (hb : 1000000000 < magF (bodyF s)) : parseE s = 1 ∧ parseN s = 0 := by
  have : parseE s = 1 := by unfold parseE; rw [if_neg (by simp [h]), if_pos hb]
  exact ⟨this, by unfold parseN; rw [this]; rfl⟩
theorem parseE_ok {s : List UInt8} (h : goodF (bodyF s) = true) (hb : magF (bodyF s) ≤ 1000000000) : parseE s = 0 ∧ parseN s = if negF s then -(magF (bodyF s) : Int) else magF (bodyF s) := by
  have : parseE s = 0 := by unfold parseE; rw [if_neg (by simp [h]), if_neg (by omega)]
  exact ⟨this, by unfold parseN; rw [this]; rfl⟩
theorem fin_mag (r : List UInt8) : (finZ (wholeOf r) (partOf r) ≤ 1000000000 ∧ finZ (wholeOf r) (partOf r) = magF r) ∨ (1000000000 < finZ (wholeOf r) (partOf r) ∧ 1000000000 < magF r) := by
  have h := sat_mag r
  rw [finZ_eq]
  generalize satD (satD (satD 0 (wholeOf r)) ((partOf r).take 3)) (List.replicate (3 - ((partOf r).take 3).length) 48) = x at *
  rcases h with h | h
  · by_cases hx : x ≤ 1000000000
    · exact Or.inl ⟨by omega, by omega⟩
    · exact Or.inr ⟨by omega, by omega⟩
  · exact Or.inr ⟨by omega, by omega⟩
theorem errN_4 : errN 4 = errV 4 := rfl

theorem parse_none (s : ByteArray) (w : World) (hs : s.size ≤ 1000) (r : List UInt8) (hr : s.data.toList = r) (hb : bodyF s.data.toList = r) (hn : negF s.data.toList = false)
    (h45 : startsB s 45 = false) (h43 : startsB s 43 = false) (m : Int) (hm : w.cell? ⟨0, 0, none⟩ = some (.int .i64 m)) :
    Calls Tryd.prog 20 #[.string s] w fun e w' => e = .returned (.tuple #[.int .i64 (parseN s.data.toList), errN (parseE s.data.toList)]) ∧ ∃ n, w' = w.drewN n := by
  have hR := size_list hr
  have hRs : s.size ≤ 1000 := by first | exact hs | (rw [ByteArray.size_extract]; omega)
  have hcut := cut_any s r w hr hRs m hm
  have hlen := parts_len r
  have hw : (wholeOf r).length ≤ 1000 := by omega
  have hp : (partOf r).length ≤ 1000 := by omega
  by_cases hl : (wholeOf r).length + (partOf r).length = 0
  · obtain ⟨q1, q2⟩ := parseE_text (s := s.data.toList) (by rw [hb]; simp [goodF, hl])
    rw [q1, q2, errN_4]; exact parse_none_len0 s _ _ _ w h45 h43 hs hcut hl
  cases hW : allD (wholeOf r)
  · obtain ⟨q1, q2⟩ := parseE_text (s := s.data.toList) (by rw [hb]; simp [goodF, hW])
    rw [q1, q2, errN_4]; exact parse_none_Wbad s _ _ _ w h45 h43 hs hcut hw hp hl hW
  cases hP : allD (partOf r)
  · obtain ⟨q1, q2⟩ := parseE_text (s := s.data.toList) (by rw [hb]; simp [goodF, hP])
    rw [q1, q2, errN_4]; exact parse_none_Pbad s _ _ _ w h45 h43 hs hcut hw hp hl hW hP
  have hg : goodF (bodyF s.data.toList) = true := by rw [hb]; exact goodF_iff.2 ⟨hW, hP, hl⟩
  rcases fin_mag r with ⟨f1, f2⟩ | ⟨f1, f2⟩
  · obtain ⟨q1, q2⟩ := parseE_ok hg (by rw [hb]; omega)
    rw [q1, q2, errN_0, hb, hn, ← f2]
    exact parse_none_ok s _ _ _ _ _ w h45 h43 hs hcut hw hp hW hP hl (extract_take _) (allD_take hP 3) (by simp; omega) rfl f1
  · obtain ⟨q1, q2⟩ := parseE_big hg (by rw [hb]; omega)
    rw [q1, q2, errN_1]
    exact parse_none_big s _ _ _ _ _ w h45 h43 hs hcut hw hp hW hP hl (extract_take _) (allD_take hP 3) (by simp; omega) rfl f1

theorem parse_plus (s : ByteArray) (w : World) (hs : s.size ≤ 1000) (r : List UInt8) (hr : (s.extract 1 s.size).data.toList = r) (hb : bodyF s.data.toList = r) (hn : negF s.data.toList = false)
    (h45 : startsB s 45 = false) (h43 : startsB s 43 = true) (hsz : 1 ≤ s.size) (m : Int) (hm : w.cell? ⟨0, 0, none⟩ = some (.int .i64 m)) :
    Calls Tryd.prog 20 #[.string s] w fun e w' => e = .returned (.tuple #[.int .i64 (parseN s.data.toList), errN (parseE s.data.toList)]) ∧ ∃ n, w' = w.drewN n := by
  have hR := size_list hr
  have hRs : (s.extract 1 s.size).size ≤ 1000 := by first | exact hs | (rw [ByteArray.size_extract]; omega)
  have hcut := cut_any (s.extract 1 s.size) r w hr hRs m hm
  have hlen := parts_len r
  have hw : (wholeOf r).length ≤ 1000 := by omega
  have hp : (partOf r).length ≤ 1000 := by omega
  by_cases hl : (wholeOf r).length + (partOf r).length = 0
  · obtain ⟨q1, q2⟩ := parseE_text (s := s.data.toList) (by rw [hb]; simp [goodF, hl])
    rw [q1, q2, errN_4]; exact parse_plus_len0 s _ _ _ w h45 h43 hsz hs hcut hl
  cases hW : allD (wholeOf r)
  · obtain ⟨q1, q2⟩ := parseE_text (s := s.data.toList) (by rw [hb]; simp [goodF, hW])
    rw [q1, q2, errN_4]; exact parse_plus_Wbad s _ _ _ w h45 h43 hsz hs hcut hw hp hl hW
  cases hP : allD (partOf r)
  · obtain ⟨q1, q2⟩ := parseE_text (s := s.data.toList) (by rw [hb]; simp [goodF, hP])
    rw [q1, q2, errN_4]; exact parse_plus_Pbad s _ _ _ w h45 h43 hsz hs hcut hw hp hl hW hP
  have hg : goodF (bodyF s.data.toList) = true := by rw [hb]; exact goodF_iff.2 ⟨hW, hP, hl⟩
  rcases fin_mag r with ⟨f1, f2⟩ | ⟨f1, f2⟩
  · obtain ⟨q1, q2⟩ := parseE_ok hg (by rw [hb]; omega)
    rw [q1, q2, errN_0, hb, hn, ← f2]
    exact parse_plus_ok s _ _ _ _ _ w h45 h43 hsz hs hcut hw hp hW hP hl (extract_take _) (allD_take hP 3) (by simp; omega) rfl f1
  · obtain ⟨q1, q2⟩ := parseE_big hg (by rw [hb]; omega)
    rw [q1, q2, errN_1]
    exact parse_plus_big s _ _ _ _ _ w h45 h43 hsz hs hcut hw hp hW hP hl (extract_take _) (allD_take hP 3) (by simp; omega) rfl f1

theorem parse_minus (s : ByteArray) (w : World) (hs : s.size ≤ 1000) (r : List UInt8) (hr : (s.extract 1 s.size).data.toList = r) (hb : bodyF s.data.toList = r) (hn : negF s.data.toList = true)
    (h45 : startsB s 45 = true) (hsz : 1 ≤ s.size) (m : Int) (hm : w.cell? ⟨0, 0, none⟩ = some (.int .i64 m)) :
    Calls Tryd.prog 20 #[.string s] w fun e w' => e = .returned (.tuple #[.int .i64 (parseN s.data.toList), errN (parseE s.data.toList)]) ∧ ∃ n, w' = w.drewN n := by
  have hR := size_list hr
  have hRs : (s.extract 1 s.size).size ≤ 1000 := by first | exact hs | (rw [ByteArray.size_extract]; omega)
  have hcut := cut_any (s.extract 1 s.size) r w hr hRs m hm
  have hlen := parts_len r
  have hw : (wholeOf r).length ≤ 1000 := by omega
  have hp : (partOf r).length ≤ 1000 := by omega
  by_cases hl : (wholeOf r).length + (partOf r).length = 0
  · obtain ⟨q1, q2⟩ := parseE_text (s := s.data.toList) (by rw [hb]; simp [goodF, hl])
    rw [q1, q2, errN_4]; exact parse_minus_len0 s _ _ _ w h45 hsz hs hcut hl
  cases hW : allD (wholeOf r)
  · obtain ⟨q1, q2⟩ := parseE_text (s := s.data.toList) (by rw [hb]; simp [goodF, hW])
    rw [q1, q2, errN_4]; exact parse_minus_Wbad s _ _ _ w h45 hsz hs hcut hw hp hl hW
  cases hP : allD (partOf r)
  · obtain ⟨q1, q2⟩ := parseE_text (s := s.data.toList) (by rw [hb]; simp [goodF, hP])
    rw [q1, q2, errN_4]; exact parse_minus_Pbad s _ _ _ w h45 hsz hs hcut hw hp hl hW hP
  have hg : goodF (bodyF s.data.toList) = true := by rw [hb]; exact goodF_iff.2 ⟨hW, hP, hl⟩
  rcases fin_mag r with ⟨f1, f2⟩ | ⟨f1, f2⟩
  · obtain ⟨q1, q2⟩ := parseE_ok hg (by rw [hb]; omega)
    rw [q1, q2, errN_0, hb, hn, ← f2]
    exact parse_minus_ok s _ _ _ _ _ w h45 hsz hs hcut hw hp hW hP hl (extract_take _) (allD_take hP 3) (by simp; omega) rfl f1
  · obtain ⟨q1, q2⟩ := parseE_big hg (by rw [hb]; omega)
    rw [q1, q2, errN_1]
    exact parse_minus_big s _ _ _ _ _ w h45 hsz hs hcut hw hp hW hP hl (extract_take _) (allD_take hP 3) (by simp; omega) rfl f1

theorem parse_any (s : ByteArray) (w : World) (hs : s.size ≤ 1000) (m : Int) (hm : w.cell? ⟨0, 0, none⟩ = some (.int .i64 m)) :
    Calls Tryd.prog 20 #[.string s] w fun e w' => e = .returned (.tuple #[.int .i64 (parseN s.data.toList), errN (parseE s.data.toList)]) ∧ ∃ n, w' = w.drewN n := by
  cases hL : s.data.toList with
  | nil =>
    have := parse_none s w hs [] hL (by rw [hL]; rfl) (by rw [hL]; rfl) (startsB_nil hL _) (startsB_nil hL _) m hm
    rwa [hL] at this
  | cons c l =>
    have hz := size_list hL
    simp only [List.length_cons] at hz
    by_cases h1 : c = 45
    · subst h1
      have := parse_minus s w hs l (tail_list hL) (by rw [hL]; exact bodyF_neg l) (by rw [hL]; rfl) (by rw [startsB_cons hL]; rfl) (by omega) m hm
      rwa [hL] at this
    · by_cases h2 : c = 43
      · subst h2
        have := parse_plus s w hs l (tail_list hL) (by rw [hL]; exact bodyF_pos l) (by rw [hL]; rfl) (by rw [startsB_cons hL]; rfl) (by rw [startsB_cons hL]; rfl) (by omega) m hm
        rwa [hL] at this
      · have := parse_none s w hs (c :: l) hL (by rw [hL]; exact bodyF_else l h1 h2) (by rw [hL]; simp [negF, h1]) (by rw [startsB_cons hL]; simp; exact fun h => h1 h.symm) (by rw [startsB_cons hL]; simp; exact fun h => h2 h.symm) m hm
        rwa [hL] at this
end Go.Proofs.YtidillbpoklnjaaDoor
