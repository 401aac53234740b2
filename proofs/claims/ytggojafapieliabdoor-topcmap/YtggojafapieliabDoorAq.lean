/-
  Bytes and texts: small laws that many walks share.
-/
import Derived.Test.YtggojafapieliabDoorAp
import Derived.Test.YtggojafapieliabDoorRa
import Derived.Laws.OwnMore
import Derived.OneCell
namespace Go.Proofs.YtggojafapieliabDoor
open Go.RowKit
set_option maxRecDepth 100000

def strLen : Value → Nat
  | .string t => t.size
  | _ => 0
theorem ext_list (t : ByteArray) (i j : Nat) : (t.extract i j).data.toList = (t.data.toList.drop i).take (j - i) := by
  rw [ByteArray.data_extract, Array.toList_extract, List.extract_eq_take_drop]
theorem ext_tail (t : ByteArray) (i : Nat) : (t.extract i t.size).data.toList = t.data.toList.drop i := by
  rw [ext_list, List.take_of_length_le (by simp)]
theorem ext_size (t : ByteArray) (i j : Nat) (hj : j ≤ t.size) : (t.extract i j).size = j - i := by
  rw [ByteArray.size_extract]; omega
theorem ba_len (t : ByteArray) : t.data.toList.length = t.size := by simp
theorem drop_all (s : ByteArray) (k : Nat) (h : s.size ≤ k) : s.data.toList.drop k = [] := List.drop_of_length_le (by simpa using h)
theorem bne_true {a b : UInt8} (h : ((a.toNat : Int) != (b.toNat : Int)) = true) : (a == b) = false := by
  rw [beq_eq_false_iff_ne]; intro e; subst e; simp at h
theorem bne_false {a b : UInt8} (h : ((a.toNat : Int) != (b.toNat : Int)) = false) : (a == b) = true := by
  rw [beq_iff_eq]; apply UInt8.toNat_inj.1; simp at h; omega
theorem beq_u8 (a b : UInt8) : ((a.toNat : Int) == (b.toNat : Int)) = (a == b) := by
  rw [Bool.eq_iff_iff, beq_iff_eq, beq_iff_eq]
  exact ⟨fun h => UInt8.toNat_inj.1 (by omega), fun h => by rw [h]⟩
theorem below_drewN {B : Nat} {a w : World} (h : Below B a w) (n : Nat) : Below B a (w.drewN n) := by
  induction n with
  | zero => exact h
  | succ n ih => exact ih.drew
theorem two8 {x y : Int} {c d : UInt8} (h : (c.toNat : Int) = x) (k : (d.toNat : Int) = y) : #[Value.int .u8 x, Value.int .u8 y] = ([c, d].map byteV).toArray := by subst h; subst k; rfl
theorem cons_of {t : ByteArray} (h : 0 < t.size) : ∃ r, t.data.toList = t[0] :: r := by
  refine ⟨t.data.toList.drop 1, ?_⟩
  rw [show t.data.toList = t.data.toList.drop 0 from rfl, List.drop_eq_getElem_cons (i := 0) (by simpa using h)]; rfl
theorem ba_ne {t : ByteArray} (h : 0 < t.size) : (t.toList == []) = false := by
  rw [ByteArray.toList_eq]
  obtain ⟨r, hr⟩ := cons_of h
  rw [hr]; rfl
theorem ba_nil {t : ByteArray} (h : t.size = 0) : t.data.toList = [] := List.eq_nil_of_length_eq_zero (by rw [ba_len]; exact h)
theorem ba_nilB {t : ByteArray} (h : t.size = 0) : (t.toList == []) = true := by
  rw [ByteArray.toList_eq, ba_nil h]; rfl
theorem own8_slice {w : World} {B : Nat} {v : Value} {xs : List UInt8} (h : Own8 w B v xs) : ∃ a c, v = .slice a xs.length c := by
  obtain ⟨_, ⟨rfl, h⟩ | ⟨g, cap, cur, rfl, _⟩⟩ := h
  · exact ⟨none, 0, by rw [show xs.length = 0 from h.symm ▸ rfl]⟩
  · exact ⟨_, _, rfl⟩
theorem pHexN (c : UInt8) (n : Int) (h : n = (c.toNat : Int)) (w : World) :
    Calls Tryd.prog 91 #[.int .u8 n] w fun e w' => e = .returned (.int .i64 (hexV c)) ∧ w' = w := by
  subst h; exact pHex c w
theorem hexTk_step (s : ByteArray) (k : Nat) (p : Option Nat) (b : List UInt8) (h : k < s.size) : hexTk (s.data.toList.drop k) p b k =
    if s[k] == 62 then (0, b ++ pend p, k + 1)
    else if isBl s[k] then hexTk (s.data.toList.drop (k + 1)) p b (k + 1)
    else if hexV s[k] < 0 then (4, [], 0)
    else match p with
      | some x => hexTk (s.data.toList.drop (k + 1)) none (b ++ [UInt8.ofNat (16 * x + (hexV s[k]).toNat)]) (k + 1)
      | none => hexTk (s.data.toList.drop (k + 1)) (some (hexV s[k]).toNat) b (k + 1) := by
  rw [List.drop_eq_getElem_cons (by simpa using h)]; rfl
theorem hexTk_end (s : ByteArray) (p : Option Nat) (b : List UInt8) (k : Nat) : hexTk (s.data.toList.drop s.size) p b k = (5, [], 0) := by
  rw [List.drop_of_length_le (by simp)]; rfl
theorem set_last {α : Type} (xs : List α) (x y : α) : (xs ++ [x]).set xs.length y = xs ++ [y] := by simp
/-- The last byte of a row is written anew. -/
theorem own8_last {w : World} {B : Nat} {v : Value} {xs : List UInt8} {x : UInt8} (h : Own8 w B v (xs ++ [x])) :
    ∃ g c, v = .slice (some ⟨g, 0, none⟩) (xs.length + 1) c ∧ B ≤ g ∧ g < w.heap.size ∧ w.cell? ⟨g, xs.length, none⟩ = some (.int .u8 (x.toNat : Int)) ∧ w.frozen? ⟨g, xs.length, none⟩ = false ∧ ∀ y : UInt8, Own8 (w.setCell ⟨g, xs.length, none⟩ (.int .u8 (y.toNat : Int))) B v (xs ++ [y]) := by
  have hl : (xs ++ [x]).length = xs.length + 1 := by simp
  unfold Own8 at h
  rw [hl] at h
  obtain ⟨g, c, rfl, _⟩ := bytes_of_own (d := xs ++ [x]) h (by omega)
  have hlt := World.ownsRow.lt h g rfl
  refine ⟨g, c, rfl, hlt.1, hlt.2, ?_, World.ownsRow.frozenAt h _, fun y => ?_⟩
  · rw [World.ownsRow.cellAt h _ (by omega)]
    simp [byteV]
  · have q := (World.ownsRow.stored h xs.length (.int .u8 (y.toNat : Int))).1
    unfold Own8
    rw [List.map_append, List.map_cons, List.map_nil] at q
    rw [show xs.length = (xs.map byteV).length by simp, set_last] at q
    rw [show (xs ++ [y]).length = xs.length + 1 by simp, List.map_append]
    simpa [byteV] using q
theorem or_nib (x d : Nat) (hx : x < 16) (hd : d < 16) : bits .or .u8 ((UInt8.ofNat (16 * x)).toNat : Int) (d : Int) = ((UInt8.ofNat (16 * x + d)).toNat : Int) := by
  have h : ∀ a b : Fin 16, bits .or .u8 ((UInt8.ofNat (16 * a.1)).toNat : Int) (b.1 : Int) = ((UInt8.ofNat (16 * a.1 + b.1)).toNat : Int) := by decide +kernel
  exact h ⟨x, hx⟩ ⟨d, hd⟩
def pbool (p : Option Nat) : Bool := p.isSome
theorem pbool_none : pbool none = false := rfl
theorem pbool_some (x : Nat) : pbool (some x) = true := rfl
theorem Own8.other {w : World} {B : Nat} {v : Value} {xs : List UInt8} (h : Own8 w B v xs) {b : Nat} {t : TypeId} {cs : Array Value} (hA : At w b t cs) (ht : t ≠ 5) (o : Nat) (u : Value) : Own8 (w.setCell ⟨b, o, none⟩ u) B v xs := by
  refine ownsRow_setCell_other h (fun e => ?_) u
  obtain ⟨c, fz, hc⟩ := own8_kind h b e
  have h2 := hA.symm.trans hc
  cases h2
  exact ht rfl
theorem Kept8.setNew {B : Nat} {a w : World} (h : Kept8 B a w) {b : Nat} (hb : a.heap.size ≤ b) (hB : B ≤ b) (o : Nat) (u : Value) : Kept8 B a (w.setCell ⟨b, o, none⟩ u) := by
  refine ⟨h.below.setCell (p := ⟨b, o, none⟩) hB u, fun k x hk hn hx => ?_⟩
  have h1 := h.others k x hk hn hx
  have hlt : k < a.heap.size := (Array.getElem?_eq_some_iff.1 hk).1
  rw [Below.heap_setCell _ _ _ _ (fun e => by
    have e' : b = k := by first | exact e | exact e.symm
    omega)]
  exact h1
theorem cons_at (s : ByteArray) (p : Nat) (h : p < s.size) : s.data.toList.drop p = s[p] :: s.data.toList.drop (p + 1) := by
  rw [List.drop_eq_getElem_cons (by simpa using h)]; rfl
theorem hexTk_len : ∀ (l : List UInt8) (p : Option Nat) (b : List UInt8) (k : Nat), (hexTk l p b k).2.1.length ≤ b.length + l.length + 1
  | [], _, _, _ => by simp [hexTk]
  | c :: r, p, b, k => by
    unfold hexTk
    split
    · cases p <;> simp [pend] <;> omega
    · split
      · have := hexTk_len r p b (k + 1); simp; omega
      · split
        · simp
        · cases p with
          | none => have := hexTk_len r (some (hexV c).toNat) b (k + 1); simp; omega
          | some x => have := hexTk_len r none (b ++ [UInt8.ofNat (16 * x + (hexV c).toNat)]) (k + 1); simp at this ⊢; omega
theorem hexTk_nn : ∀ (l : List UInt8) (p : Option Nat) (b : List UInt8) (k : Nat), 0 ≤ (hexTk l p b k).1
  | [], _, _, _ => by simp [hexTk]
  | c :: r, p, b, k => by
    unfold hexTk
    split
    · simp
    · split
      · exact hexTk_nn r p b (k + 1)
      · split
        · simp
        · cases p with
          | none => exact hexTk_nn r _ b (k + 1)
          | some x => exact hexTk_nn r none _ (k + 1)
end Go.Proofs.YtggojafapieliabDoor
