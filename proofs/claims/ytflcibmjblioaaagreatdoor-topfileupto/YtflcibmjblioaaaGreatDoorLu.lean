/-
  Joined: Ls0, Lt, Lu.
-/
import Derived.Test.YtflcibmjblioaaaGreatDoorLr
import Derived.BigQuiet
import Derived.Test.YtflcibmjblioaaaGreatDoorVr
import Derived.Test.YtflcibmjblioaaaGreatDoorKj

/-
  Spans of a table: plain facts, and a text that is being written.
-/
namespace Go.Proofs.YtflcibmjblioaaaGreatDoor
open Go.RowKit Go.Lib Go.Maps
set_option maxRecDepth 1000000

/-- Where a number's object stands. -/
def gM (m : Int → Option Int) (k : Nat) : Nat := ((m (k : Int)).getD 0).toNat
/-- A text is being written: what is left to write. -/
structure Wrt (P B : Nat) (w wr : World) (xs rest tot : List UInt8) : Prop where
  bd : Bd P B wr xs
  eq : xs ++ rest = tot
  keep : KeepO P w wr
theorem Wrt.later {P B : Nat} {w wr w' : World} {xs rest tot : List UInt8} (h : Wrt P B w wr xs rest tot) (hb : Below wr.heap.size wr w') : Wrt P B w w' xs rest tot :=
  ⟨h.bd.later hb, h.eq, h.keep.trans (.of hb (by have := h.bd.1; have := h.bd.2.1; omega))⟩
theorem below_dn (w : World) (n : Nat) : Below w.heap.size w (w.drewN n) := ⟨rfl, rfl, rfl, Nat.le_refl _, fun _ _ => rfl⟩
theorem run_not {a k b : Nat} {r : List Nat} (hk : k = runL a r + 1) (hb : (a :: r)[k]? = some b) : ((b : Int) == (a : Int) + k) = false := by
  rw [beq_eq_false_iff_ne]
  intro e
  have q := runL_end r a
  subst hk
  rw [List.getElem?_cons_succ] at hb
  rw [hb] at q
  exact q (by congr 1; omega)
theorem run_yes {a k : Nat} {r : List Nat} (h1 : 1 ≤ k) (h2 : k ≤ runL a r) : (a :: r)[k]? = some (a + k) := by
  obtain ⟨k', rfl⟩ : ∃ k', k = k' + 1 := ⟨k - 1, by omega⟩
  rw [List.getElem?_cons_succ, runL_at r a k' (by omega)]
  congr 1
  omega
theorem wrapS {k : Nat} (h : k ≤ 1000000) : wrap64 ((k : Int) + 1) = (k : Int) + 1 := by unfold wrap64; omega
/-- Digits of a number. -/
theorem itoaN {M : Int} {w : World} (n : Nat) (h : n ≤ 1000000000) (hr : Rdy M w) : Calls Tryz.prog 27 #[.int .i64 (n : Int)] w fun e w' => e = .returned (.string ⟨(Lib.decDigits n).toArray⟩) ∧ Below w.heap.size w w' := by
  have e : Lib.itoa (n : Int) = Lib.decDigits n := by unfold Lib.itoa; rw [if_neg (by omega), Int.toNat_natCast]
  have q := Tryz.strconv_Itoa (n : Int) (by omega) (by omega) w hr.1
  rw [e] at q
  refine q.mono ?_
  rintro e w' ⟨rfl, kk, oo, hw⟩
  exact ⟨rfl, by rw [hw]; exact below_grow w kk oo⟩
/-- The first span's text. -/
theorem span_split {g : Nat → Nat} {f a : Nat} {r : List Nat} (h : (a :: r).length ≤ f) : ∃ f', (r.drop (runL a r)).length ≤ f' ∧ spsT (grpF g f (a :: r)) = (Lib.decDigits a ++ 32 :: (Lib.decDigits (runL a r + 1) ++ [10])) ++ (((a :: r.take (runL a r)).map g).flatMap entT ++ spsT (grpF g f' (r.drop (runL a r)))) := by
  obtain ⟨f', rfl⟩ : ∃ f', f = f' + 1 := ⟨f - 1, by simp at h; omega⟩
  have hr := runL_le a r
  refine ⟨f', by rw [List.length_drop]; simp at h; omega, ?_⟩
  have e : ((a :: r.take (runL a r)).map g).length = runL a r + 1 := by simp; omega
  unfold spsT
  rw [grpF, List.flatMap_cons]
  unfold spT
  simp only [e, List.append_assoc, List.cons_append, List.nil_append]
theorem k_more {a k L : Nat} {r : List Nat} (H : a < 100 ∧ r.length + 1 = L ∧ runL a r ≤ r.length ∧ L ≤ 60) (h : k ≤ runL a r) : wrap64 ((k : Int) + 1) = (k : Int) + 1 ∧ (1 ≤ k + 1 ∧ k + 1 ≤ runL a r + 1) ∧ k < L := ⟨wrapS (by omega), by omega, by omega⟩
theorem k_end {a k : Nat} {r : List Nat} (H : 1 ≤ k ∧ k ≤ runL a r + 1) (h : ¬ k ≤ runL a r) : k = runL a r + 1 := by omega
theorem k_less {L k : Nat} (h : k < L) : L + 1 - (intOf (Value.int .i64 ((k : Int) + 1))).toNat < L + 1 - (intOf (Value.int .i64 (k : Int))).toNat := by
  simp [intOf]
  omega
theorem k_int (k : Nat) : Value.int .i64 ((k : Int) + 1) = Value.int .i64 ((k + 1 : Nat) : Int) := by simp
/-- Digits as a text. -/
def decB (n : Nat) : ByteArray := ⟨(Lib.decDigits n).toArray⟩
theorem decB_size {n : Nat} (h : n < 100000) : (decB n).size ≤ 5 := by
  have := dec_len5 h
  simpa [decB, ByteArray.size] using this
/-- A text and another. -/
def catB (a b : ByteArray) : ByteArray := ⟨(a.data.toList ++ b.data.toList).toArray⟩
theorem catB_list (a b : ByteArray) : (catB a b).data.toList = a.data.toList ++ b.data.toList := rfl
theorem catB_size (a b : ByteArray) : (catB a b).size = a.size + b.size := by rw [szL, szL a, szL b, catB_list, List.length_append]
theorem add_cat {a b : ByteArray} (ha : a.size ≤ 1000000) (hb : b.size ≤ 1000000) (w : World) : (Op.stringOp .add a b).run Tryz.prog w = .ok (.string (catB a b)) w := addF (by omega) (by omega) (catB_list a b) w
def lnB (a : ByteArray) : ByteArray := catB a ⟨#[10]⟩
/-- One line. -/
theorem line_one (A : ByteArray) (W : World) (h : A.size ≤ 1000000) : Calls Tryz.prog 39 #[.slice (some ⟨W.heap.size, 0, none⟩) 1 1] (W.alloc (.cells #[.string A] 9)) fun e w' => e = .returned (.string (lnB A)) ∧ Below W.heap.size W w' :=
  lines_new [A] 1 _ (lnB A) W rfl rfl (by simp) (by simp [Lib.join, List.intercalate]; omega) (by simp [linesL, Lib.join, List.intercalate, lnB, catB_list])
/-- The first row of a span. -/
def hdB (a k : Nat) : ByteArray := lnB (catB (catB (decB a) ⟨#[32]⟩) (decB k))
theorem hdB_list (a k : Nat) : (hdB a k).data.toList = Lib.decDigits a ++ 32 :: (Lib.decDigits k ++ [10]) := by simp [hdB, lnB, catB_list, decB]
theorem hdB_size {a k : Nat} (ha : a < 100000) (hk : k < 100000) : (catB (decB a) ⟨#[32]⟩).size ≤ 6 ∧ (catB (catB (decB a) ⟨#[32]⟩) (decB k)).size ≤ 11 ∧ (hdB a k).size ≤ 12 ∧ (hdB a k).size ≠ 0 := by
  have h1 := decB_size ha
  have h2 := decB_size hk
  unfold hdB lnB
  simp only [catB_size]
  have e1 : (⟨#[32]⟩ : ByteArray).size = 1 := rfl
  have e2 : (⟨#[10]⟩ : ByteArray).size = 1 := rfl
  omega
/-- How far a span's entries are written. -/
def SpW (P B : Nat) (w2 wx : World) (G : Nat → Nat) (a : Nat) (r : List Nat) (TOT : List UInt8) (j : Nat) : Prop :=
  ∃ f xs, (r.drop (runL a r)).length ≤ f ∧ Wrt P B w2 wx xs ((((a :: r.take (runL a r)).map G).drop j).flatMap entT ++ spsT (grpF G f (r.drop (runL a r)))) TOT
theorem SpW.later {P B : Nat} {w2 wx w' : World} {G : Nat → Nat} {a : Nat} {r : List Nat} {TOT : List UInt8} {j : Nat} (h : SpW P B w2 wx G a r TOT j) (hb : Below wx.heap.size wx w') : SpW P B w2 w' G a r TOT j := by
  obtain ⟨f, xs, h1, h2⟩ := h
  exact ⟨f, xs, h1, h2.later hb⟩
/-- The first row is written. -/
theorem write_head {P B : Nat} {w2 wx : World} {G : Nat → Nat} {a k : Nat} {r : List Nat} {TOT : List UInt8} (hT : TOT.length ≤ 2000) (hs : (hdB a k).size ≤ 12 ∧ (hdB a k).size ≠ 0) (hk : k = runL a r + 1) (h : ∃ f xs, (a :: r).length ≤ f ∧ Wrt P B w2 wx xs (spsT (grpF G f (a :: r))) TOT) :
    Calls Tryz.prog 35 #[.pointer (some ⟨P, 0, none⟩), .string (hdB a k)] wx fun e w' => e = .returned (.tuple #[.int .i64 (hdB a k).size, .nilIface]) ∧ SpW P B w2 w' G a r TOT 0 ∧ KeepO P wx w' := by
  obtain ⟨f, xs, hf, hW⟩ := h
  obtain ⟨f', hf', hsp⟩ := span_split (g := G) hf
  have hl := congrArg List.length hW.eq
  simp only [List.length_append] at hl
  refine (write_bd (hdB a k) hW.bd (by omega) hs.2).mono ?_
  rintro e w' ⟨rfl, hb, hK⟩
  refine ⟨rfl, ⟨f', _, hf', hb, ?_, hW.keep.trans hK⟩, hK⟩
  rw [← hW.eq, hsp, hdB_list, hk, List.drop_zero]
  simp only [List.append_assoc, List.cons_append, List.nil_append]
/-- One entry. -/
def enB (p : Nat) : ByteArray := lnB (catB (catB ⟨(Lib.repeatL [48] (10 - (Lib.decDigits p).length)).toArray⟩ (decB p)) ⟨#[32, 48, 48, 48, 48, 48, 32, 110, 32]⟩)
theorem rep_list : ∀ k : Nat, Lib.repeatL [48] k = List.replicate k (48 : UInt8)
  | 0 => rfl
  | k + 1 => by rw [Lib.repeatL, rep_list k]; rfl
theorem enB_list (p : Nat) : (enB p).data.toList = entT p := by
  unfold enB lnB
  simp only [catB_list]
  unfold entT pad10 decB
  rw [rep_list]
  simp
theorem k_sm {a k L : Nat} {r : List Nat} (H : a < 100 ∧ r.length + 1 = L ∧ runL a r ≤ r.length ∧ L ≤ 60) (hk : k = runL a r + 1) : (a ≤ 1000000000 ∧ k ≤ 1000000000) ∧ ((catB (decB a) ⟨#[32]⟩).size ≤ 1000000 ∧ (catB (catB (decB a) ⟨#[32]⟩) (decB k)).size ≤ 1000000 ∧ (decB a).size ≤ 1000000 ∧ (decB k).size ≤ 1000000) ∧ (hdB a k).size ≤ 12 ∧ (hdB a k).size ≠ 0 := by
  have h1 := hdB_size (a := a) (k := k) (by omega) (by omega)
  have h2 := decB_size (n := a) (by omega)
  have h3 := decB_size (n := k) (by omega)
  refine ⟨by omega, by omega, by omega, by omega⟩
theorem row_of {P B : Nat} {w2 wx : World} {G : Nat → Nat} {a g : Nat} {r ns : List Nat} {TOT : List UInt8} (h : ∃ f xs, (a :: r).length ≤ f ∧ Wrt P B w2 wx xs (spsT (grpF G f (a :: r))) TOT) (hr : RowN w2 g ns) (hg : g ≠ P) : RowN wx g ns := by
  obtain ⟨f, xs, _, hW⟩ := h
  exact hr.others hW.keep hg
theorem below_of {P B : Nat} {w w2 wx : World} {G : Nat → Nat} {a : Nat} {r : List Nat} {TOT : List UInt8} (h : ∃ f xs, (a :: r).length ≤ f ∧ Wrt P B w2 wx xs (spsT (grpF G f (a :: r))) TOT) (hw : Below P w w2) : Below P w wx := by
  obtain ⟨f, xs, _, hW⟩ := h
  exact hw.trans hW.keep.below
theorem wrt_later {P B : Nat} {w2 wx w' : World} {G : Nat → Nat} {a : Nat} {r : List Nat} {TOT : List UInt8} (h : ∃ f xs, (a :: r).length ≤ f ∧ Wrt P B w2 wx xs (spsT (grpF G f (a :: r))) TOT) (hb : Below wx.heap.size wx w') : ∃ f xs, (a :: r).length ≤ f ∧ Wrt P B w2 w' xs (spsT (grpF G f (a :: r))) TOT := by
  obtain ⟨f, xs, h1, hW⟩ := h
  exact ⟨f, xs, h1, hW.later hb⟩
theorem ent_at (G : Nat → Nat) {a j : Nat} {r : List Nat} (h : j < runL a r + 1) : ∃ b, (a :: r)[j]? = some b ∧ ((a :: r.take (runL a r)).map G)[j]? = some (G b) ∧ b ∈ a :: r := by
  have hr := runL_le a r
  have hl : j < (a :: r).length := by simp; omega
  refine ⟨(a :: r)[j], List.getElem?_eq_getElem hl, ?_, List.getElem_mem hl⟩
  rw [List.getElem?_map]
  match j, h, hl with
  | 0, _, _ => rfl
  | j + 1, h, hl =>
    have hl' : j < r.length := by simpa using hl
    rw [List.getElem?_cons_succ, List.getElem?_take_of_lt (by omega), List.getElem?_eq_getElem hl']
    rfl
theorem write_ent {P B : Nat} {w2 wx : World} {G : Nat → Nat} {a j p : Nat} {r : List Nat} {TOT : List UInt8} (hT : TOT.length ≤ 2000) (hp : ((a :: r.take (runL a r)).map G)[j]? = some p) (h : SpW P B w2 wx G a r TOT j) :
    Calls Tryz.prog 35 #[.pointer (some ⟨P, 0, none⟩), .string (enB p)] wx fun e w' => e = .returned (.tuple #[.int .i64 (enB p).size, .nilIface]) ∧ SpW P B w2 w' G a r TOT (j + 1) := by
  obtain ⟨f, xs, hf, hW⟩ := h
  have hj := (List.getElem?_eq_some_iff.1 hp).1
  have hd : ((a :: r.take (runL a r)).map G).drop j = p :: ((a :: r.take (runL a r)).map G).drop (j + 1) := by
    rw [List.drop_eq_getElem_cons hj, (List.getElem?_eq_some_iff.1 hp).2]
  rw [hd, List.flatMap_cons] at hW
  have hl := congrArg List.length hW.eq
  simp only [List.length_append] at hl
  have he : (enB p).size = (entT p).length := by rw [szL, enB_list]
  have hne : (entT p).length ≠ 0 := by unfold entT; simp
  refine (write_bd (enB p) hW.bd (by omega) (by omega)).mono ?_
  rintro e w' ⟨rfl, hb, hK⟩
  refine ⟨rfl, f, _, hf, hb, ?_, hW.keep.trans hK⟩
  rw [← hW.eq, enB_list]
  simp only [List.append_assoc]
theorem SpW.keep {P B : Nat} {w2 wx : World} {G : Nat → Nat} {a : Nat} {r : List Nat} {TOT : List UInt8} {j : Nat} (h : SpW P B w2 wx G a r TOT j) : KeepO P w2 wx := by
  obtain ⟨f, xs, _, hW⟩ := h
  exact hW.keep
/-- What an entry's text wants. -/
theorem en_facts {p : Nat} (h : p < 10000000) : ∃ q : Nat, (10 : Int) - ((decB p).size : Int) = (q : Int) ∧ wrap64 ((10 : Int) - ((decB p).size : Int)) = (q : Int) ∧ q ≤ 10 ∧ q = 10 - (Lib.decDigits p).length ∧ (decB p).size ≤ 10 := by
  have h1 := dec_len7 h
  have h2 : (decB p).size = (Lib.decDigits p).length := by simp [decB, ByteArray.size]
  refine ⟨10 - (Lib.decDigits p).length, by omega, by unfold wrap64; omega, by omega, rfl, by omega⟩
def zrB (q : Nat) : ByteArray := ⟨(Lib.repeatL [48] q).toArray⟩
theorem zrB_size (q : Nat) : (zrB q).size = q := by
  have := Lib.repeatL_length [48] q
  simp [zrB, ByteArray.size] at *
  omega
theorem enB_eq {p q : Nat} (h : q = 10 - (Lib.decDigits p).length) : enB p = lnB (catB (catB (zrB q) (decB p)) ⟨#[32, 48, 48, 48, 48, 48, 32, 110, 32]⟩) := by subst h; rfl
theorem zero_rep (q : Nat) (w : World) (h : q ≤ 10) : Calls Tryz.prog 66 #[.string ⟨#[48]⟩, .int .i64 (q : Int)] w fun e w' => e = .returned (.string (zrB q)) ∧ Below w.heap.size w w' :=
  Tryz.strings_Repeat ⟨#[48]⟩ q w (by omega) (by show 1 * q ≤ _; omega)
theorem gM_look {m : Int → Option Int} {w : World} {mb n b : Nat} {c : Int} (hM : MapZ w mb n m) (hb : b ≤ 1000) (hc : m (b : Int) = some c) (h0 : 0 ≤ c) : (Instr.lookup 59 (.map (some mb)) (.int .i64 (b : Int)) false).run Tryz.prog w = .ok (.int .i64 ((gM m b : Nat) : Int)) w := by
  rw [hM.look1 (by omega)]
  unfold gM
  rw [hc]
  simp only [Option.getD_some]
  rw [Int.toNat_of_nonneg h0]
theorem j_less {k j : Nat} (h : j < k) : k - (intOf (Value.int .i64 ((j : Int) + 1))).toNat < k - (intOf (Value.int .i64 (j : Int))).toNat := by
  simp [intOf]
  omega
theorem sp_end {P B : Nat} {w2 wx : World} {G : Nat → Nat} {a i k : Nat} {r ns : List Nat} {TOT : List UInt8} (h : SpW P B w2 wx G a r TOT k) (hk : k = runL a r + 1) (har : ns.drop i = a :: r) : ∃ f xs, (ns.drop (i + k)).length ≤ f ∧ Wrt P B w2 wx xs (spsT (grpF G f (ns.drop (i + k)))) TOT := by
  obtain ⟨f, xs, hf, hW⟩ := h
  have hr := runL_le a r
  have e : ns.drop (i + k) = r.drop (runL a r) := by
    rw [← List.drop_drop, har, hk, List.drop_succ_cons]
  have e2 : ((a :: r.take (runL a r)).map G).drop k = [] := List.drop_eq_nil_of_le (by simp; omega)
  rw [e2, List.flatMap_nil, List.nil_append] at hW
  rw [e]
  exact ⟨f, xs, hf, hW⟩
/-- What stands at a place of the span. -/
theorem at_j {P B mb n g i j k L a : Nat} {w w2 wx : World} {m : Int → Option Int} {r ns : List Nat} {TOT : List UInt8} (hS : SpW P B w2 wx (gM m) a r TOT j) (hj : j < k) (hk : k = runL a r + 1) (hM : MapZ w mb n m) (hB : Below w.heap.size w w2) (hR : RowN w2 g ns) (hg : g ≠ P) (hP : P = w.heap.size)
    (hcl : ∀ j k : Nat, (a :: r)[j]? = some k → ns[i + j]? = some k) (hm : ∀ x c, m x = some c → 1 ≤ x ∧ x ≤ 60 ∧ 0 ≤ c ∧ c < 10000000) (hns : ∀ k : Nat, k ∈ ns ↔ ∃ c, m (k : Int) = some c) (hL : r.length + 1 = L) :
    ∃ b : Nat, wx.cell? ⟨g, i + j, none⟩ = some (.int .i64 (b : Int)) ∧ g < wx.heap.size ∧ j < L ∧ ((a :: r.take (runL a r)).map (gM m))[j]? = some (gM m b) ∧ gM m b < 10000000 ∧ (Instr.lookup 59 (.map (some mb)) (.int .i64 (b : Int)) false).run Tryz.prog wx = .ok (.int .i64 ((gM m b : Nat) : Int)) wx := by
  obtain ⟨b, h1, h2, h3⟩ := ent_at (gM m) (a := a) (r := r) (j := j) (by omega)
  have hn := hcl j b h1
  have hR' := hR.others hS.keep hg
  obtain ⟨c, hc⟩ := (hns b).1 (List.mem_of_getElem? hn)
  have q := hm _ _ hc
  have hr := runL_le a r
  have hMx := ((hM.later hB).others hS.keep (by have := hM.lt; omega))
  refine ⟨b, hR'.cell hn, hR'.lt, by omega, h2, ?_, gM_look hMx (by omega) hc q.2.2.1⟩
  unfold gM
  rw [hc]
  simp
  omega
theorem en_size {p q : Nat} (h : q ≤ 10 ∧ q = 10 - (Lib.decDigits p).length ∧ (decB p).size ≤ 10) : (catB (catB (zrB q) (decB p)) ⟨#[32, 48, 48, 48, 48, 48, 32, 110, 32]⟩).size ≤ 1000000 := by
  rw [catB_size, catB_size, zrB_size]
  have e : (⟨#[32, 48, 48, 48, 48, 48, 32, 110, 32]⟩ : ByteArray).size = 9 := rfl
  omega
end Go.Proofs.YtflcibmjblioaaaGreatDoor

/-
  Objects in memory, and as an argument.
-/
namespace Go.Proofs.YtflcibmjblioaaaGreatDoor
open Go.RowKit Go.WideShapes Go.ChangeShapes Go.Deep Go.Joins
set_option maxRecDepth 100000

/-- An object in memory. -/
def ObAt (d : Nat) (w : World) (b off : Nat) (o : Ob) (cs : List Value) : Prop := b < w.heap.size ∧ CellsAt w b off (obC o.n cs o.st o.dt) ∧ o.dt.size ≤ maxLen ∧ RepN d w o.v cs
theorem ObAt.later {d : Nat} {w w' : World} {b off : Nat} {o : Ob} {cs : List Value} (h : ObAt d w b off o cs) (hb : Below w.heap.size w w') : ObAt d w' b off o cs :=
  ⟨Nat.lt_of_lt_of_le h.1 hb.size, h.2.1.later h.1 hb, h.2.2.1, h.2.2.2.later hb⟩
theorem ob_cells {d : Nat} {w : World} {b off : Nat} {o : Ob} {cs : List Value} (h : ObAt d w b off o cs) :
    ∃ k n s al ll cl af lf cf, cs = [.int .i64 k, .int .i64 n, .string s, .slice al ll cl, .slice af lf cf] ∧ w.cell? ⟨b, off, none⟩ = some (.int .i64 o.n) ∧ w.cell? ⟨b, off + 1, none⟩ = some (.int .i64 k) ∧ w.cell? ⟨b, off + 2, none⟩ = some (.int .i64 n) ∧ w.cell? ⟨b, off + 3, none⟩ = some (.string s) ∧ w.cell? ⟨b, off + 4, none⟩ = some (.slice al ll cl) ∧ w.cell? ⟨b, off + 5, none⟩ = some (.slice af lf cf) ∧ w.cell? ⟨b, off + 6, none⟩ = some (.bool o.st) ∧ w.cell? ⟨b, off + 7, none⟩ = some (.string o.dt) := by
  obtain ⟨_, hc, _, hr⟩ := h
  obtain ⟨e, rfl⟩ := hr.inv
  obtain ⟨al, af, cl, cf, rfl, _⟩ := hr
  exact ⟨_, _, _, _, _, _, _, _, _, rfl, hc 0 _ rfl, hc 1 _ rfl, hc 2 _ rfl, hc 3 _ rfl, hc 4 _ rfl, hc 5 _ rfl, hc 6 _ rfl, hc 7 _ rfl⟩
/-- Objects in memory: a slice of them. -/
def ObsN (d : Nat) (w : World) (t : Value) (L : List Ob) : Prop :=
  ∃ a c, t = .slice a L.length c ∧ L.length ≤ maxLen ∧ ∀ (i : Nat) o, L[i]? = some o → ∃ b off cs, a = some ⟨b, off, none⟩ ∧ ObAt d w b (off + i * 8) o cs
theorem ObsN.later {d : Nat} {w w' : World} {t : Value} {L : List Ob} (h : ObsN d w t L) (hb : Below w.heap.size w w') : ObsN d w' t L := by
  obtain ⟨a, c, h1, h2, h3⟩ := h
  refine ⟨a, c, h1, h2, fun i o ho => ?_⟩
  obtain ⟨b, off, cs, q1, q2⟩ := h3 i o ho
  exact ⟨b, off, cs, q1, q2.later hb⟩
def obsBulk (L : List Ob) : Nat := (L.map fun o => 1 + o.dt.size + o.v.bulk).sum
theorem obsBulk_mem {L : List Ob} {i : Nat} {o : Ob} (h : L[i]? = some o) : 1 + o.dt.size + o.v.bulk ≤ obsBulk L := by
  induction L generalizing i with
  | nil => simp at h
  | cons x L ih =>
    unfold obsBulk
    rw [List.map_cons, List.sum_cons]
    cases i with
    | zero => simp at h; subst h; omega
    | succ i => have := ih (i := i) (by simpa using h); unfold obsBulk at this; omega
theorem cellsOb : Tryz.prog.cellsOf 42 = 8 := by kernel_rfl
theorem list8 {α : Type} {cs : List α} (h : cs.length = 8) : ∃ c0 c1 c2 c3 c4 c5 c6 c7, cs = [c0, c1, c2, c3, c4, c5, c6, c7] := by
  match cs, h with
  | [c0, c1, c2, c3, c4, c5, c6, c7], _ => exact ⟨c0, c1, c2, c3, c4, c5, c6, c7, rfl⟩
theorem list4 {α : Type} {cs : List α} (h : cs.length = 4) : ∃ c0 c1 c2 c3, cs = [c0, c1, c2, c3] := by
  match cs, h with
  | [c0, c1, c2, c3], _ => exact ⟨c0, c1, c2, c3, rfl⟩
section
variable {H : Type} {enc : TypeId × Value → H} {W : World}
theorem trod_ob (fuel : Nat) (cs : List Value) (x : DataW H × List MemPlace) (hl : cs.length = 8) (h : DataW.trod enc Tryz.prog W 0 (fun _ => true) true fuel 42 cs = some x) :
    ∃ (o : Ob) (c : List Value), cs = obC o.n c o.st o.dt ∧ o.dt.size ≤ maxLen ∧ RepN fuel W o.v c ∧ 1 + o.dt.size + o.v.bulk ≤ Rows.uptoBulk x.1 := by
  obtain ⟨xs, n, hn, hxx, hl', hlen, hx⟩ := DataW.trod_struct Tryz.underlying42 h
  obtain ⟨c0, c1, c2, c3, c4, c5, c6, c7, rfl⟩ := list8 hl
  have hxl : xs.length = 4 := hlen
  obtain ⟨y0, y1, y2, y3, rfl⟩ := list4 hxl
  have g0 : DataW.trod enc Tryz.prog W 0 (fun _ => true) true n 3 [c0] = some y0 := hx 0 _ rfl
  have g1 : DataW.trod enc Tryz.prog W 0 (fun _ => true) true n 40 [c1, c2, c3, c4, c5] = some y1 := hx 1 _ rfl
  have g2 : DataW.trod enc Tryz.prog W 0 (fun _ => true) true n 4 [c6] = some y2 := hx 2 _ rfl
  have g3 : DataW.trod enc Tryz.prog W 0 (fun _ => true) true n 9 [c7] = some y3 := hx 3 _ rfl
  obtain ⟨k, q0, p0, _⟩ := DataW.trod_int Tryz.underlying3 g0
  obtain ⟨st, q2, p2⟩ := DataW.trod_bool Tryz.underlying4 g2
  obtain ⟨dt, q3, p3, hdt⟩ := DataW.trod_string Tryz.underlying9 g3
  obtain ⟨v, hv, hbv⟩ := trod_value n _ _ g1
  simp only [List.cons.injEq, and_true] at q0 q2 q3
  subst q0 q2 q3
  refine ⟨⟨k, v, st, dt⟩, [c1, c2, c3, c4, c5], rfl, hdt, hv.mono (by omega), ?_⟩
  rw [hxx]
  have e := bulkN_eq hv
  simp only [List.map_cons, List.map_nil, Rows.uptoBulk, Rows.uptoBulkAll, p3]
  have : dt.data.toList.length = dt.size := by simp
  show 1 + dt.size + v.bulk ≤ _
  omega
theorem open_objs {base : Nat} {v : Value} {d : DataW H} {p : List MemPlace} (hv : Value.okWide Tryz.prog W .any base 22 v) (h : DataW.Trod enc Tryz.prog W 0 (fun _ => true) true 22 v d p) :
    ∃ dep L, ObsN dep W v L ∧ obsBulk L ≤ Rows.uptoBulk d := by
  obtain ⟨a0, n0, c0, rfl⟩ := okWide_slice Tryz.underlying22 hv
  obtain ⟨fuel, hf⟩ := h
  obtain ⟨al, len, cap, es, q, hl, hlen, hbl, hL⟩ := trod_list Tryz.underlying22 cellsOb (by omega) hf
  have hL2 : ∀ i : Nat, ∃ o : Ob, ∀ y, es[i]? = some y → (∃ b off cs, al = some ⟨b, off, none⟩ ∧ ObAt fuel W b (off + i * 8) o cs) ∧ 1 + o.dt.size + o.v.bulk ≤ Rows.uptoBulk y.1 := fun i => by
    cases hi : es[i]? with
    | none => exact ⟨⟨0, ⟨0, 0, ByteArray.empty, [], []⟩, false, ByteArray.empty⟩, fun y h => by cases h⟩
    | some y =>
      obtain ⟨b, off, c, z1, z2, z3, z4, z5⟩ := hL i y hi
      obtain ⟨o, cs, rfl, hd, hr, hb⟩ := trod_ob _ c y z3 z5
      refine ⟨o, fun y' h => ?_⟩
      cases h
      exact ⟨⟨b, off, cs, z1, z2, z4, hd, hr.mono (by omega)⟩, hb⟩
  obtain ⟨gL, hgL⟩ := Classical.axiomOfChoice hL2
  injection q with q1 q2 q3
  subst q1 q2 q3
  have hget : ∀ (i : Nat) v, ((List.range n0).map gL)[i]? = some v → i < n0 ∧ v = gL i := fun i v hv => by
    simp only [List.getElem?_map, Option.map_eq_some_iff] at hv
    obtain ⟨j, hj, rfl⟩ := hv
    have hi := (List.getElem?_eq_some_iff.1 hj).1
    simp at hi
    have : j = i := by simpa [List.getElem?_range hi] using hj.symm
    subst this
    exact ⟨hi, rfl⟩
  refine ⟨fuel, (List.range n0).map gL, ⟨a0, c0, by simp, by simpa using hl, fun i o ho => ?_⟩, ?_⟩
  · obtain ⟨hi, rfl⟩ := hget i o ho
    exact (hgL i _ (List.getElem?_eq_getElem (by omega))).1
  · have hsum : obsBulk ((List.range n0).map gL) ≤ Rows.uptoBulkAll (es.map (·.1)) := by
      refine sum_le (fun o : Ob => 1 + o.dt.size + o.v.bulk) _ _ (by simp [hlen]) fun i v dd hv hd => ?_
      obtain ⟨hi, rfl⟩ := hget i v hv
      rw [List.getElem?_map, Option.map_eq_some_iff] at hd
      obtain ⟨y, hy, rfl⟩ := hd
      exact (hgL i y hy).2
    have hbl' : Rows.uptoBulkAll (es.map (·.1)) + 1 ≤ Rows.uptoBulk d := hbl
    omega
end
end Go.Proofs.YtflcibmjblioaaaGreatDoor

/-
  How long objects' texts are, of objects that are not too great.
-/
namespace Go.Proofs.YtflcibmjblioaaaGreatDoor
open Go.RowKit
set_option maxRecDepth 100000

theorem bulkF_app : ∀ (a b : List (ByteArray × V)), bulkF (a ++ b) = bulkF a + bulkF b
  | [], b => by simp [bulkF]
  | q :: a, b => by rw [List.cons_append, bulkF_cons, bulkF_cons, bulkF_app a b]; omega
theorem bulkF_set (name : ByteArray) (x : V) (f : List (ByteArray × V)) : bulkF (psetF name x f) ≤ bulkF f + 1 + name.size + x.bulk := by
  have cut : ∀ i, bulkF f = bulkF (f.take i) + bulkF (f.drop i) := fun i => by rw [← bulkF_app, List.take_append_drop]
  have new : ∀ i, bulkF (f.take i ++ (name, x) :: f.drop i) = bulkF f + 1 + name.size + x.bulk := fun i => by
    rw [bulkF_app, bulkF_cons, cut i]; simp only; omega
  unfold psetF
  split
  · rename_i i _
    rw [bulkF_app, bulkF_cons]
    have h1 := cut i
    have h2 : bulkF (f.drop (i + 1)) ≤ bulkF (f.drop i) := by
      cases h : f.drop i with
      | nil => rw [show f.drop (i + 1) = [] by rw [← List.drop_drop, h]; rfl]; exact Nat.le_refl _
      | cons q r => rw [show f.drop (i + 1) = r by rw [← List.drop_drop, h]; rfl, bulkF_cons]; omega
    simp only
    omega
  · split
    · rw [new]; exact Nat.le_refl _
    · rw [new]; exact Nat.le_refl _
theorem lv_bulk (o : Ob) : (lvR o).1.bulk ≤ o.v.bulk + 10 := by
  have h0 : (V0 0 0 eB).bulk = 1 := by rw [bulk_eq']; simp [V0, bulkL, bulkF, eB]; rfl
  have hp : 1 ≤ o.v.bulk := by rw [bulk_eq']; omega
  unfold lvR
  split
  · split
    · show (V0 0 0 eB).bulk ≤ _; omega
    · show o.v.bulk ≤ _; omega
  · split
    · show (V0 0 0 eB).bulk ≤ _; omega
    · split
      · show (V0 0 0 eB).bulk ≤ _; omega
      · have hx : (V0 2 (o.dt.size * 1000) eB).bulk = 1 := by rw [bulk_eq']; simp [V0, bulkL, bulkF, eB]; rfl
        have hn : lenN.size = 6 := rfl
        have := bulkF_set lenN (V0 2 (o.dt.size * 1000) eB) o.v.f
        rw [bulk_eq', bulk_eq' o.v]
        simp only
        omega
/-- How great objects are. -/
def lgt (L : List Ob) : Nat := (L.map fun o => 2 * o.dt.size + (o.v.bulk + 1)).sum
def LightO (L : List Ob) : Prop := L.length ≤ 70 ∧ lgt L ≤ 40000
theorem lgt_mem {L : List Ob} {o : Ob} (h : o ∈ L) : 2 * o.dt.size + (o.v.bulk + 1) ≤ lgt L := by
  induction L with
  | nil => simp at h
  | cons x L ih =>
    unfold lgt
    rw [List.map_cons, List.sum_cons]
    rcases List.mem_cons.1 h with rfl | h
    · omega
    · have := ih h; unfold lgt at this; omega
theorem lgt_app (L M : List Ob) : lgt (L ++ M) = lgt L + lgt M := by simp [lgt]
theorem ob_len {o : Ob} (h : obF o = 0) : (obT o).length ≤ 13600 + 4 * o.v.bulk + o.dt.size := by
  obtain ⟨h1, h2, h3⟩ := obF_parts h
  obtain ⟨s1, s2, _⟩ := fault_parts h3
  have q := txt_long (lvR o).1 s1
  have b := lv_bulk o
  have i := itoa_few (n := o.n) h1.1 (by omega)
  have e := szL o.dt
  unfold obT objW streamW endsW endW
  cases o.st with
  | false =>
    simp only [List.length_append, List.length_cons, List.length_nil, Bool.false_eq_true, if_false]
    omega
  | true =>
    simp only [List.length_append, List.length_cons, List.length_nil, if_true]
    omega
theorem obs_len : ∀ {L : List Ob}, (∀ o ∈ L, obF o = 0) → (L.flatMap obT).length ≤ 13600 * L.length + 4 * lgt L
  | [], _ => by simp
  | o :: L, h => by
    have ih := obs_len (L := L) fun q hq => h q (List.mem_cons_of_mem _ hq)
    have h0 := ob_len (h o (by simp))
    rw [List.flatMap_cons, List.length_append]
    have e : lgt (o :: L) = 2 * o.dt.size + (o.v.bulk + 1) + lgt L := by simp [lgt]
    rw [e, List.length_cons]
    omega
/-- Texts of the first of them. -/
theorem light_len {L A B : List Ob} (h : LightO L) (e : L = A ++ B) (hA : ∀ o ∈ A, obF o = 0) : (A.flatMap obT).length ≤ 1200000 := by
  have := obs_len hA
  have h1 := h.1
  have h2 := h.2
  rw [e] at h1 h2
  rw [lgt_app] at h2
  rw [List.length_append] at h1
  omega
end Go.Proofs.YtflcibmjblioaaaGreatDoor
