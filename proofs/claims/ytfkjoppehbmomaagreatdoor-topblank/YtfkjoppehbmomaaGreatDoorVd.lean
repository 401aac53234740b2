/-
  Joined: Vs, Vh, Vd.
-/
import Derived.Test.YtfkjoppehbmomaaGreatDoorVa
import Derived.Test.YtfkjoppehbmomaaGreatDoorKb
import Derived.Deep.RegionWith
import Derived.Deep.CutRange
import Derived.Deep.CutBlock
import Derived.BigRegion
import Derived.Test.YtfkjoppehbmomaaGreatDoorFe
import Derived.Test.YtfkjoppehbmomaaGreatDoorShelf

/-
  Plain functions over values as trees: how many, how deep, how much, whether it may be.
-/
namespace Go.Proofs.YtfkjoppehbmomaaGreatDoor
open Go.RowKit
set_option maxRecDepth 100000

mutual
def V.cnt : V → Nat
  | ⟨_, _, _, l, f⟩ => 1 + cntL l + cntF f
def cntL : List V → Nat
  | [] => 0
  | x :: l => V.cnt x + cntL l
def cntF : List (ByteArray × V) → Nat
  | [] => 0
  | q :: l => cntP q + cntF l
def cntP : ByteArray × V → Nat
  | (_, x) => V.cnt x
end
mutual
def V.dep : V → Nat
  | ⟨_, _, _, l, f⟩ => 1 + max (depL l) (depF f)
def depL : List V → Nat
  | [] => 0
  | x :: l => max (V.dep x) (depL l)
def depF : List (ByteArray × V) → Nat
  | [] => 0
  | q :: l => max (depP q) (depF l)
def depP : ByteArray × V → Nat
  | (_, x) => V.dep x
end
mutual
def V.bulk : V → Nat
  | ⟨_, _, s, l, f⟩ => 1 + s.size + bulkL l + bulkF f
def bulkL : List V → Nat
  | [] => 0
  | x :: l => V.bulk x + bulkL l
def bulkF : List (ByteArray × V) → Nat
  | [] => 0
  | q :: l => bulkP q + bulkF l
def bulkP : ByteArray × V → Nat
  | (n, x) => 1 + n.size + V.bulk x
end
theorem cnt_eq (v : V) : v.cnt = 1 + cntL v.l + cntF v.f := by cases v; rw [V.cnt]
theorem dep_eq (v : V) : v.dep = 1 + max (depL v.l) (depF v.f) := by cases v; rw [V.dep]
theorem bulk_eq' (v : V) : v.bulk = 1 + v.s.size + bulkL v.l + bulkF v.f := by cases v; rw [V.bulk]
theorem cntF_cons (q : ByteArray × V) (l) : cntF (q :: l) = q.2.cnt + cntF l := by cases q; rw [cntF, cntP]
theorem depF_cons (q : ByteArray × V) (l) : depF (q :: l) = max q.2.dep (depF l) := by cases q; rw [depF, depP]
theorem bulkF_cons (q : ByteArray × V) (l) : bulkF (q :: l) = 1 + q.1.size + q.2.bulk + bulkF l := by cases q; rw [bulkF, bulkP]
theorem cntL_take : ∀ (l : List V) (j : Nat) (x : V), l[j]? = some x → cntL (l.take (j + 1)) = cntL (l.take j) + x.cnt
  | [], j, x, h => by simp at h
  | y :: l, 0, x, h => by simp at h; subst h; simp [cntL]
  | y :: l, j + 1, x, h => by
    have := cntL_take l j x (by simpa using h)
    rw [List.take_succ_cons, List.take_succ_cons, cntL, cntL, this]; omega
theorem cntF_take : ∀ (l : List (ByteArray × V)) (j : Nat) (q : ByteArray × V), l[j]? = some q → cntF (l.take (j + 1)) = cntF (l.take j) + q.2.cnt
  | [], j, x, h => by simp at h
  | y :: l, 0, x, h => by simp at h; subst h; simp [cntF_cons, cntF]
  | y :: l, j + 1, x, h => by
    have := cntF_take l j x (by simpa using h)
    rw [List.take_succ_cons, List.take_succ_cons, cntF_cons, cntF_cons, this]; omega
theorem depL_take : ∀ (l : List V) (j : Nat) (x : V), l[j]? = some x → depL (l.take (j + 1)) = max (depL (l.take j)) x.dep
  | [], j, x, h => by simp at h
  | y :: l, 0, x, h => by simp at h; subst h; simp [depL]
  | y :: l, j + 1, x, h => by
    have := depL_take l j x (by simpa using h)
    rw [List.take_succ_cons, List.take_succ_cons, depL, depL, this]; omega
theorem depF_take : ∀ (l : List (ByteArray × V)) (j : Nat) (q : ByteArray × V), l[j]? = some q → depF (l.take (j + 1)) = max (depF (l.take j)) q.2.dep
  | [], j, x, h => by simp at h
  | y :: l, 0, x, h => by simp at h; subst h; simp [depF_cons, depF]
  | y :: l, j + 1, x, h => by
    have := depF_take l j x (by simpa using h)
    rw [List.take_succ_cons, List.take_succ_cons, depF_cons, depF_cons, this]; omega
theorem cntL_take_le : ∀ (l : List V) (j : Nat), cntL (l.take j) ≤ cntL l
  | [], j => by simp
  | y :: l, 0 => by simp [cntL]
  | y :: l, j + 1 => by have := cntL_take_le l j; rw [List.take_succ_cons, cntL, cntL]; omega
theorem cntF_take_le : ∀ (l : List (ByteArray × V)) (j : Nat), cntF (l.take j) ≤ cntF l
  | [], j => by simp
  | y :: l, 0 => by simp [cntF]
  | y :: l, j + 1 => by have := cntF_take_le l j; rw [List.take_succ_cons, cntF_cons, cntF_cons]; omega
theorem bulkL_mem : ∀ (l : List V) (x : V), x ∈ l → x.bulk ≤ bulkL l
  | y :: l, x, h => by
    rw [bulkL]
    rcases List.mem_cons.1 h with rfl | h
    · omega
    · have := bulkL_mem l x h; omega
theorem bulkF_mem : ∀ (l : List (ByteArray × V)) (q : ByteArray × V), q ∈ l → 1 + q.1.size + q.2.bulk ≤ bulkF l
  | y :: l, x, h => by
    rw [bulkF_cons]
    rcases List.mem_cons.1 h with rfl | h
    · omega
    · have := bulkF_mem l x h; omega
/-- Whatever holds of all that is in a tree holds of it, step by step. -/
theorem V.ind {P : V → Prop} (h : ∀ v : V, (∀ x ∈ v.l, P x) → (∀ q ∈ v.f, P q.2) → P v) (v : V) : P v := by
  have key : ∀ n (v : V), v.bulk ≤ n → P v := by
    intro n
    induction n with
    | zero => intro v hv; rw [bulk_eq'] at hv; omega
    | succ n ih =>
      intro v hv
      rw [bulk_eq'] at hv
      exact h v (fun x hx => ih x (by have := bulkL_mem _ _ hx; omega)) (fun q hq => ih q.2 (by have := bulkF_mem _ _ hq; omega))
  exact key _ v (Nat.le_refl _)
theorem cntL_le_bulk : ∀ (l : List V), (∀ x ∈ l, x.cnt ≤ x.bulk) → cntL l ≤ bulkL l
  | [], _ => by simp [cntL]
  | y :: l, h => by
    have := cntL_le_bulk l (fun x hx => h x (by simp [hx]))
    have := h y (by simp)
    rw [cntL, bulkL]; omega
theorem cntF_le_bulk : ∀ (l : List (ByteArray × V)), (∀ q ∈ l, q.2.cnt ≤ q.2.bulk) → cntF l ≤ bulkF l
  | [], _ => by simp [cntF]
  | y :: l, h => by
    have := cntF_le_bulk l (fun x hx => h x (by simp [hx]))
    have := h y (by simp)
    rw [cntF_cons, bulkF_cons]; omega
theorem cnt_le_bulk (v : V) : v.cnt ≤ v.bulk := by
  induction v using V.ind with
  | h v hl hf =>
    have a := cntL_le_bulk v.l hl
    have b := cntF_le_bulk v.f hf
    rw [cnt_eq, bulk_eq']; omega
theorem depL_le : ∀ (l : List V), (∀ x ∈ l, x.dep ≤ x.cnt) → depL l ≤ cntL l
  | [], _ => by simp [depL]
  | y :: l, h => by
    have := depL_le l (fun x hx => h x (by simp [hx]))
    have := h y (by simp)
    rw [depL, cntL]; omega
theorem depF_le : ∀ (l : List (ByteArray × V)), (∀ q ∈ l, q.2.dep ≤ q.2.cnt) → depF l ≤ cntF l
  | [], _ => by simp [depF]
  | y :: l, h => by
    have := depF_le l (fun x hx => h x (by simp [hx]))
    have := h y (by simp)
    rw [depF_cons, cntF_cons]; omega
theorem dep_le_cnt (v : V) : v.dep ≤ v.cnt := by
  induction v using V.ind with
  | h v hl hf =>
    have a := depL_le v.l hl
    have b := depF_le v.f hf
    rw [cnt_eq, dep_eq]; omega
theorem depL_take_le : ∀ (l : List V) (j : Nat), depL (l.take j) ≤ depL l
  | [], j => by simp
  | y :: l, 0 => by simp [depL]
  | y :: l, j + 1 => by have := depL_take_le l j; rw [List.take_succ_cons, depL, depL]; omega
theorem depF_take_le : ∀ (l : List (ByteArray × V)) (j : Nat), depF (l.take j) ≤ depF l
  | [], j => by simp
  | y :: l, 0 => by simp [depF]
  | y :: l, j + 1 => by have := depF_take_le l j; rw [List.take_succ_cons, depF_cons, depF_cons]; omega
theorem bulkN_eq : ∀ {d : Nat} {w : World} {v : V} {cs : List Value}, RepN d w v cs → bulkN d v = v.bulk
  | 0, _, _, _, h => h.elim
  | d + 1, w, v, cs, h => by
    obtain ⟨al, af, cl, cf, h1, h2, h3, h4⟩ := h
    have e1 : ∀ l : List V, (∀ x ∈ l, bulkN d x = x.bulk) → (l.map (bulkN d)).sum = bulkL l := fun l => by
      induction l with
      | nil => intro _; rfl
      | cons y l ih => intro h; rw [List.map_cons, List.sum_cons, bulkL, ih (fun x hx => h x (by simp [hx])), h y (by simp)]
    have e2 : ∀ l : List (ByteArray × V), (∀ q ∈ l, bulkN d q.2 = q.2.bulk) → (l.map fun q => 1 + q.1.size + bulkN d q.2).sum = bulkF l := fun l => by
      induction l with
      | nil => intro _; rfl
      | cons y l ih => intro h; rw [List.map_cons, List.sum_cons, bulkF_cons, ih (fun x hx => h x (by simp [hx])), h y (by simp)]
    have q1 : ∀ x ∈ v.l, bulkN d x = x.bulk := fun x hx => by
      obtain ⟨i, hi⟩ := List.getElem?_of_mem hx
      obtain ⟨b, off, c, e, hb, hc, hr⟩ := h3 i x hi
      exact bulkN_eq hr
    have q2 : ∀ q ∈ v.f, bulkN d q.2 = q.2.bulk := fun q hq => by
      obtain ⟨i, hi⟩ := List.getElem?_of_mem hq
      obtain ⟨b, off, c, e, hb, hs, hn, hc, hr⟩ := h4 i q hi
      exact bulkN_eq hr
    rw [bulkN, bulk_eq', e1 v.l q1, e2 v.f q2]
end Go.Proofs.YtfkjoppehbmomaaGreatDoor

/-
  Aids for contracts over values: the cells of one, the block in which a call keeps one.
-/
namespace Go.Proofs.YtfkjoppehbmomaaGreatDoor
open Go.RowKit
set_option maxRecDepth 100000

theorem RepN.inv {d : Nat} {w : World} {v : V} {cs : List Value} (h : RepN d w v cs) : ∃ e, d = e + 1 := by
  cases d with
  | zero => exact h.elim
  | succ e => exact ⟨e, rfl⟩
/-- The cells of a value, one by one. -/
theorem rep_cells {d : Nat} {w : World} {v : V} {cs : List Value} {b o : Nat} (h : RepN d w v cs) (hc : CellsAt w b o cs) :
    ∃ k n s al ll cl af lf cf, cs = [.int .i64 k, .int .i64 n, .string s, .slice al ll cl, .slice af lf cf] ∧ w.cell? ⟨b, o, none⟩ = some (.int .i64 k) ∧ w.cell? ⟨b, o + 1, none⟩ = some (.int .i64 n) ∧ w.cell? ⟨b, o + 2, none⟩ = some (.string s) ∧ w.cell? ⟨b, o + 3, none⟩ = some (.slice al ll cl) ∧ w.cell? ⟨b, o + 4, none⟩ = some (.slice af lf cf) := by
  obtain ⟨e, rfl⟩ := h.inv
  obtain ⟨al, af, cl, cf, rfl, _⟩ := h
  exact ⟨_, _, _, _, _, _, _, _, _, rfl, hc 0 _ rfl, hc 1 _ rfl, hc 2 _ rfl, hc 3 _ rfl, hc 4 _ rfl⟩
/-- The whole block of a value that a call has boxed. -/
abbrev BoxV (w : World) (b : Nat) (v : V) (al af : Option Addr) (cl cf : Nat) : Prop := At w b 26 #[.int .i64 v.k, .int .i64 v.n, .string v.s, .slice al v.l.length cl, .slice af v.f.length cf]

/-- The answer to a question. -/
def AnsB (e : Ending) (P : Prop) : Prop := (e = .returned (.bool true) ∧ P) ∨ (e = .returned (.bool false) ∧ ¬ P)
theorem AnsB.yes {P : Prop} {r : Bool} (h : P) (hr : r = true := by rfl) : AnsB (.returned (.bool r)) P := by subst hr; exact .inl ⟨rfl, h⟩
theorem AnsB.no {P : Prop} {r : Bool} (h : ¬ P) (hr : r = false := by rfl) : AnsB (.returned (.bool r)) P := by subst hr; exact .inr ⟨rfl, h⟩
theorem AnsB.of {P : Prop} {r : Bool} (h : r = true ↔ P) : AnsB (.returned (.bool r)) P := by
  cases r
  · exact .inr ⟨rfl, fun hp => by have := h.2 hp; cases this⟩
  · exact .inl ⟨rfl, h.1 rfl⟩
theorem AnsB.bool {P : Prop} {e : Ending} (h : AnsB e P) : ∃ r : Bool, e = .returned (.bool r) ∧ (r = true ↔ P) := by
  rcases h with ⟨h, hp⟩ | ⟨h, hp⟩
  · exact ⟨true, h, iff_of_true rfl hp⟩
  · exact ⟨false, h, iff_of_false (by simp) hp⟩
end Go.Proofs.YtfkjoppehbmomaaGreatDoor

/-
  What may be: names, and values; the document's own answers about them (look only).
-/
namespace Go.Proofs.YtfkjoppehbmomaaGreatDoor
open Go.RowKit
set_option maxRecDepth 100000

/-- May something be called so? -/
def nmOk (s : ByteArray) : Bool := decide (1 ≤ s.size) && decide (s.size ≤ 200) && !(s.data.toList.contains 0)
theorem nmOk_zero {s : ByteArray} {k : Nat} (h : k < s.size) (hz : s[k].toNat = 0) : nmOk s = false := by
  have : (0 : UInt8) ∈ s.data.toList := by
    have e : s[k] = 0 := UInt8.toNat_inj.1 (by simpa using hz)
    rw [← e]
    exact List.mem_iff_getElem?.2 ⟨k, by rw [List.getElem?_eq_getElem (by simpa using h)]; rfl⟩
  simp [nmOk, this]
theorem nmOk_all {s : ByteArray} (h1 : 1 ≤ s.size) (h2 : s.size ≤ 200) (h : (s.data.toList.take s.size).contains 0 = false) : nmOk s = true := by
  rw [List.take_of_length_le (by simp)] at h
  simp only [nmOk, h, h1, h2]; rfl
theorem nmOk_len {s : ByteArray} (h : s.size < 1 ∨ 200 < s.size) : nmOk s = false := by
  unfold nmOk
  rcases h with h | h
  · rw [decide_eq_false (p := 1 ≤ s.size) (by omega)]; rfl
  · rw [decide_eq_false (p := s.size ≤ 200) (by omega), Bool.and_false]; rfl

theorem rNameMay (s : ByteArray) (w : World) (hs : s.size ≤ maxLen) :
    Calls Tryz.prog 85 #[.string s] w fun e w' => e = .returned (.bool (nmOk s)) ∧ w' = w := by
  unfold maxLen at hs
  go_enter Tryz.func85, Tryz.ntmps85
  by_cases h1 : (s.size : Int) < 1
  · go_wp2
    go_ret
    exact ⟨ret_bool (nmOk_len (by omega)).symm, rfl⟩
  by_cases h2 : (200 : Int) < s.size
  · go_wp2
    go_ret
    exact ⟨ret_bool (nmOk_len (by omega)).symm, rfl⟩
  go_wp2
  go_loop [3] (fun i => ∃ k : Nat, k ≤ s.size ∧ i = .int .i64 k ∧ (s.data.toList.take k).contains 0 = false) (fun i => s.size - (intOf i).toNat)
  case atStart => exact ⟨0, Nat.zero_le _, rfl, rfl⟩
  case round =>
    obtain ⟨k, hk, rfl, hd⟩ := hrel
    have HD := hid hd
    clear hd
    by_cases hlt : k < s.size
    · have HT := hid (take_snoc s k hlt)
      by_cases h3 : (s[k].toNat : Int) = 0
      · go_wp2
        go_ret
        exact ⟨ret_bool (nmOk_zero hlt (by omega)).symm, rfl⟩
      · go_wp2
        go_round
        case rel =>
          refine ⟨k + 1, by omega, by go_num, ?_⟩
          rw [HT.out]
          have h4 : s[k] ≠ 0 := fun e => h3 (by rw [e]; rfl)
          have := HD.out
          simp only [List.contains_eq_mem, List.mem_append, decide_eq_false_iff_not] at this ⊢
          simp only [List.mem_singleton, not_or]
          exact ⟨this, fun e => h4 e.symm⟩
        case measure => simp [intOf]; omega
    · have hke : k = s.size := by omega
      subst hke
      go_wp2
      go_ret
      exact ⟨ret_bool (nmOk_all (by omega) (by omega) HD.out).symm, rfl⟩
theorem vNameMay (s : ByteArray) (w : World) (hs : s.size ≤ maxLen) :
    Calls Tryz.prog 68 #[.string s] w fun e w' => e = .returned (.bool (nmOk s)) ∧ w' = w := by
  unfold maxLen at hs
  go_enter Tryz.func68, Tryz.ntmps68
  by_cases h1 : (1 : Int) ≤ s.size
  · by_cases h2 : (s.size : Int) ≤ 200
    · go_wp2_with (go_at_call 29; refine (Tryz.strings_IndexByte s 0 _).mono ?_; rintro e w1 ⟨rfl, rfl⟩)
      go_ret
      refine ⟨ret_bool ?_, rfl⟩
      rw [Bool.eq_iff_iff, decide_eq_true_iff, indexByte_neg]
      unfold nmOk
      rw [decide_eq_true (p := 1 ≤ s.size) (by omega), decide_eq_true (p := s.size ≤ 200) (by omega)]
      simp
    · go_wp2
      go_ret
      exact ⟨ret_bool (nmOk_len (by omega)).symm, rfl⟩
  · go_wp2
    go_ret
    exact ⟨ret_bool (nmOk_len (by omega)).symm, rfl⟩
end Go.Proofs.YtfkjoppehbmomaaGreatDoor
