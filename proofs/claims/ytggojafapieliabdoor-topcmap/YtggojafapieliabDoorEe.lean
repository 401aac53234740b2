/-
  The tokens of a program that was written.
-/
import Derived.Test.YtggojafapieliabDoorEa
namespace Go.Proofs.YtggojafapieliabDoor
open Go.RowKit
set_option maxRecDepth 100000

theorem tokW (P : Nat) (s : ByteArray) (pre ws tok suf : List UInt8) (a b : Nat) (ha : a = pre.length) (hs : s.size ≤ 50000) (he : s.data.toList = pre ++ (ws ++ (tok ++ suf))) (hw : ∀ c ∈ ws, isBl c = true ∧ c ≠ 37)
    (ht : tok ≠ []) (hr : ∀ c ∈ tok, isWd c = true) (hf : suf.takeWhile isWd = []) (hb : b = pre.length + ws.length + tok.length) : Tok P s a ⟨tok.toArray⟩ b := by
  subst ha; exact tokWord P s pre ws tok suf b hs he hw ht hr hf hb
theorem tokA (P : Nat) (s : ByteArray) (pre ws bs suf : List UInt8) (a b : Nat) (ha : a = pre.length) (hs : s.size ≤ 50000) (he : s.data.toList = pre ++ (ws ++ (strH bs ++ suf))) (hw : ∀ c ∈ ws, isBl c = true ∧ c ≠ 37)
    (hb : b = pre.length + ws.length + (strH bs).length) : Tok P s a ⟨(strH bs).toArray⟩ b := by
  subst ha
  have hno : ∀ c ∈ hxL bs, c ≠ 62 := by
    intro c hc
    unfold hxL at hc
    obtain ⟨y, _, hy⟩ := List.mem_flatMap.1 hc
    have hd : ∀ n : Fin 16, dgt n.1 ≠ 62 := by decide
    have hy8 := y.toNat_lt
    simp only [hx2, List.mem_cons, List.not_mem_nil, or_false] at hy
    rcases hy with rfl | rfl
    · exact hd ⟨y.toNat / 16, by omega⟩
    · exact hd ⟨y.toNat % 16, by omega⟩
  refine tokAngle P s pre ws (hxL bs) suf b hs he hw hno ?_
  rw [hb]; unfold strH; simp
def wBS : List UInt8 := [98, 101, 103, 105, 110, 99, 111, 100, 101, 115, 112, 97, 99, 101, 114, 97, 110, 103, 101]
def wES : List UInt8 := [101, 110, 100, 99, 111, 100, 101, 115, 112, 97, 99, 101, 114, 97, 110, 103, 101]
def wBR : List UInt8 := [98, 101, 103, 105, 110, 98, 102, 114, 97, 110, 103, 101]
def wER : List UInt8 := [101, 110, 100, 98, 102, 114, 97, 110, 103, 101]
/-- The bytes of a space of codes. -/
def spA (wide : Bool) : List UInt8 := if wide then [0, 0] else [0]
def spZ (wide : Bool) : List UInt8 := if wide then [255, 255] else [255]
def hdC (wide : Bool) : List UInt8 := [49] ++ ([32] ++ (wBS ++ ([10] ++ (strH (spA wide) ++ ([32] ++ (strH (spZ wide) ++ ([10] ++ wES)))))))
def uX (x : Sp) : List UInt8 := unitsL (runesOf x.s.data.toList)
def spC (wide : Bool) (x : Sp) : List UInt8 := [49] ++ ([32] ++ (wBR ++ ([10] ++ (strH (cdB x.f.toNat wide) ++ ([32] ++ (strH (cdB x.t.toNat wide) ++ ([32] ++ (strH (uX x) ++ ([10] ++ wER)))))))))
def spQ (wide : Bool) (x : Sp) : List UInt8 := 10 :: spC wide x
theorem headT_eq (wide : Bool) : headT wide = hdC wide ++ [10] := by cases wide <;> decide
theorem spT_eq (wide : Bool) (x : Sp) : spT wide x = spC wide x ++ [10] := by
  unfold spT spC wB wE wBR wER uX
  simp only [List.cons_append, List.nil_append, List.append_assoc]
theorem flat_shift (wide : Bool) : ∀ l : List Sp, [10] ++ l.flatMap (spT wide) = l.flatMap (spQ wide) ++ [10]
  | [] => rfl
  | x :: l => by
    rw [List.flatMap_cons, List.flatMap_cons, spT_eq, List.append_assoc, List.append_assoc, flat_shift wide l]
    simp [spQ]
theorem spsT_eq (wide : Bool) (l : List Sp) : spsT wide l = hdC wide ++ (l.flatMap (spQ wide) ++ [10]) := by
  unfold spsT
  rw [headT_eq, List.append_assoc, flat_shift]
theorem tail10 (wide : Bool) (l : List Sp) : (l.flatMap (spQ wide) ++ [10]).takeWhile isWd = [] := by
  cases l with
  | nil => exact (show ([10] : List UInt8).takeWhile isWd = [] by decide)
  | cons x l =>
    rw [List.flatMap_cons]
    show (10 :: _).takeWhile isWd = []
    rw [List.takeWhile_cons_of_neg (by decide)]
theorem bl10 : ∀ c ∈ ([10] : List UInt8), isBl c = true ∧ c ≠ 37 := by decide
theorem bl32 : ∀ c ∈ ([32] : List UInt8), isBl c = true ∧ c ≠ 37 := by decide
theorem wd1 : ∀ c ∈ ([49] : List UInt8), isWd c = true := by decide
theorem wdBS : ∀ c ∈ wBS, isWd c = true := by decide
theorem wdES : ∀ c ∈ wES, isWd c = true := by decide
theorem wdBR : ∀ c ∈ wBR, isWd c = true := by decide
theorem wdER : ∀ c ∈ wER, isWd c = true := by decide
theorem tw32 (r : List UInt8) : ([32] ++ r).takeWhile isWd = [] := List.takeWhile_cons_of_neg (by decide)
theorem tw10 (r : List UInt8) : ([10] ++ r).takeWhile isWd = [] := List.takeWhile_cons_of_neg (by decide)
/-- How many bytes a code's string has. -/
def lw (wide : Bool) : Nat := if wide then 6 else 4
theorem cdB_str (c : Nat) (wide : Bool) : (strH (cdB c wide)).length = lw wide := by
  rw [strH_len]; unfold cdB lw; cases wide <;> simp [un2]
/-- The tokens of a space of codes. -/
structure HdT (P : Nat) (s : ByteArray) (wide : Bool) : Prop where
  t0 : Tok P s 0 ⟨#[49]⟩ 1
  t1 : Tok P s 1 ⟨wBS.toArray⟩ 21
  t2 : Tok P s 21 ⟨(strH (spA wide)).toArray⟩ (22 + lw wide)
  t3 : Tok P s (22 + lw wide) ⟨(strH (spZ wide)).toArray⟩ (23 + 2 * lw wide)
  t4 : Tok P s (23 + 2 * lw wide) ⟨wES.toArray⟩ (hdC wide).length
theorem hdC_len (wide : Bool) : (hdC wide).length = 41 + 2 * lw wide := by cases wide <;> decide
theorem spA_len (wide : Bool) : (strH (spA wide)).length = lw wide := by cases wide <;> decide
theorem spZ_len (wide : Bool) : (strH (spZ wide)).length = lw wide := by cases wide <;> decide
theorem headToks (P : Nat) (s : ByteArray) (wide : Bool) (tail : List UInt8) (hs : s.size ≤ 50000) (he : s.data.toList = hdC wide ++ tail) (ht : tail.takeWhile isWd = []) : HdT P s wide := by
  have lBS : wBS.length = 19 := rfl
  have lES : wES.length = 17 := rfl
  have la := spA_len wide
  have lz := spZ_len wide
  have lh := hdC_len wide
  refine ⟨?_, ?_, ?_, ?_, ?_⟩
  · exact tokW P s [] [] [49] ([32] ++ (wBS ++ ([10] ++ (strH (spA wide) ++ ([32] ++ (strH (spZ wide) ++ ([10] ++ wES))))) ++ tail)) 0 1 rfl hs (by rw [he]; unfold hdC; simp only [List.append_assoc, List.nil_append]) (by simp) (by simp) wd1 (tw32 _) rfl
  · exact tokW P s [49] [32] wBS ([10] ++ (strH (spA wide) ++ ([32] ++ (strH (spZ wide) ++ ([10] ++ wES))) ++ tail)) 1 21 rfl hs (by rw [he]; unfold hdC; simp only [List.append_assoc]) bl32 (by decide) wdBS (tw10 _) rfl
  · exact tokA P s ([49] ++ ([32] ++ wBS)) [10] (spA wide) ([32] ++ (strH (spZ wide) ++ ([10] ++ wES)) ++ tail) 21 _ rfl hs (by rw [he]; unfold hdC; simp only [List.append_assoc]) bl10 (by simp only [List.length_append, List.length_cons, List.length_nil]; omega)
  · exact tokA P s ([49] ++ ([32] ++ (wBS ++ ([10] ++ strH (spA wide))))) [32] (spZ wide) (([10] ++ wES) ++ tail) _ _ (by simp only [List.length_append, List.length_cons, List.length_nil]; omega) hs (by rw [he]; unfold hdC; simp only [List.append_assoc]) bl32 (by simp only [List.length_append, List.length_cons, List.length_nil]; omega)
  · exact tokW P s ([49] ++ ([32] ++ (wBS ++ ([10] ++ (strH (spA wide) ++ ([32] ++ strH (spZ wide))))))) [10] wES tail _ _ (by simp only [List.length_append, List.length_cons, List.length_nil]; omega) hs (by rw [he]; unfold hdC; simp only [List.append_assoc]) bl10 (by decide) wdES ht (by simp only [List.length_append, List.length_cons, List.length_nil]; omega)
/-- The tokens of a span, from a place on. -/
structure SpTk (P : Nat) (s : ByteArray) (wide : Bool) (x : Sp) (p : Nat) : Prop where
  t0 : Tok P s p ⟨#[49]⟩ (p + 2)
  t1 : Tok P s (p + 2) ⟨wBR.toArray⟩ (p + 15)
  t2 : Tok P s (p + 15) ⟨(strH (cdB x.f.toNat wide)).toArray⟩ (p + 16 + lw wide)
  t3 : Tok P s (p + 16 + lw wide) ⟨(strH (cdB x.t.toNat wide)).toArray⟩ (p + 17 + 2 * lw wide)
  t4 : Tok P s (p + 17 + 2 * lw wide) ⟨(strH (uX x)).toArray⟩ (p + 18 + 2 * lw wide + (strH (uX x)).length)
  t5 : Tok P s (p + 18 + 2 * lw wide + (strH (uX x)).length) ⟨wER.toArray⟩ (p + (spQ wide x).length)
theorem spQ_len (wide : Bool) (x : Sp) : (spQ wide x).length = 29 + 2 * lw wide + (strH (uX x)).length := by
  have lBR : wBR.length = 12 := rfl
  have lER : wER.length = 10 := rfl
  unfold spQ spC
  simp only [List.length_append, List.length_cons, List.length_nil, cdB_str]; omega
theorem spanToks (P : Nat) (s : ByteArray) (wide : Bool) (x : Sp) (pre tail : List UInt8) (p : Nat) (hp : p = pre.length) (hs : s.size ≤ 50000) (he : s.data.toList = pre ++ (spQ wide x ++ tail)) (ht : tail.takeWhile isWd = []) : SpTk P s wide x p := by
  have lBR : wBR.length = 12 := rfl
  have lER : wER.length = 10 := rfl
  have la := cdB_str x.f.toNat wide
  have lb := cdB_str x.t.toNat wide
  have lq := spQ_len wide x
  have he' : s.data.toList = pre ++ ([10] ++ ([49] ++ ([32] ++ (wBR ++ ([10] ++ (strH (cdB x.f.toNat wide) ++ ([32] ++ (strH (cdB x.t.toNat wide) ++ ([32] ++ (strH (uX x) ++ ([10] ++ (wER ++ tail)))))))))))) := by
    rw [he]; unfold spQ spC; simp only [List.append_assoc, List.cons_append, List.nil_append]
  refine ⟨?_, ?_, ?_, ?_, ?_, ?_⟩
  · exact tokW P s pre [10] [49] _ _ _ hp hs he' bl10 (by simp) wd1 (tw32 _) (by simp only [List.length_cons, List.length_nil]; omega)
  · exact tokW P s (pre ++ ([10] ++ [49])) [32] wBR ([10] ++ (strH (cdB x.f.toNat wide) ++ ([32] ++ (strH (cdB x.t.toNat wide) ++ ([32] ++ (strH (uX x) ++ ([10] ++ (wER ++ tail)))))))) _ _ (by simp only [List.length_append, List.length_cons, List.length_nil]; omega) hs (by rw [he']; simp only [List.append_assoc]) bl32 (by decide) wdBR (tw10 _) (by simp only [List.length_append, List.length_cons, List.length_nil]; omega)
  · exact tokA P s (pre ++ ([10] ++ ([49] ++ ([32] ++ wBR)))) [10] (cdB x.f.toNat wide) ([32] ++ (strH (cdB x.t.toNat wide) ++ ([32] ++ (strH (uX x) ++ ([10] ++ (wER ++ tail)))))) _ _ (by simp only [List.length_append, List.length_cons, List.length_nil]; omega) hs (by rw [he']; simp only [List.append_assoc]) bl10 (by simp only [List.length_append, List.length_cons, List.length_nil]; omega)
  · exact tokA P s (pre ++ ([10] ++ ([49] ++ ([32] ++ (wBR ++ ([10] ++ strH (cdB x.f.toNat wide))))))) [32] (cdB x.t.toNat wide) ([32] ++ (strH (uX x) ++ ([10] ++ (wER ++ tail)))) _ _ (by simp only [List.length_append, List.length_cons, List.length_nil]; omega) hs (by rw [he']; simp only [List.append_assoc]) bl32 (by simp only [List.length_append, List.length_cons, List.length_nil]; omega)
  · exact tokA P s (pre ++ ([10] ++ ([49] ++ ([32] ++ (wBR ++ ([10] ++ (strH (cdB x.f.toNat wide) ++ ([32] ++ strH (cdB x.t.toNat wide))))))))) [32] (uX x) ([10] ++ (wER ++ tail)) _ _ (by simp only [List.length_append, List.length_cons, List.length_nil]; omega) hs (by rw [he']; simp only [List.append_assoc]) bl32 (by simp only [List.length_append, List.length_cons, List.length_nil]; omega)
  · exact tokW P s (pre ++ ([10] ++ ([49] ++ ([32] ++ (wBR ++ ([10] ++ (strH (cdB x.f.toNat wide) ++ ([32] ++ (strH (cdB x.t.toNat wide) ++ ([32] ++ strH (uX x))))))))))) [10] wER tail _ _ (by simp only [List.length_append, List.length_cons, List.length_nil]; omega) hs (by rw [he']; simp only [List.append_assoc]) bl10 (by decide) wdER ht (by simp only [List.length_append, List.length_cons, List.length_nil]; omega)
end Go.Proofs.YtggojafapieliabDoor
