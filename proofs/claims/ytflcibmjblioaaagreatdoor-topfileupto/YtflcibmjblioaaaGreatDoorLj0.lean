/-
  Joined: Ai, Li, Lj0.
-/
import Derived.Test.YtflcibmjblioaaaGreatDoorAp
import Derived.Test.YtflcibmjblioaaaGreatDoorLh
import Derived.Test.YtflcibmjblioaaaGreatDoorVd5

/-
  Numbers that a call owns: what appending to them does.
-/
namespace Go.Proofs.YtflcibmjblioaaaGreatDoor
open Go.RowKit
set_option maxRecDepth 100000

def intV (n : Nat) : Value := .int .i64 (n : Int)
/-- Numbers that a call owns. -/
def Own64 (w : World) (B : Nat) (v : Value) (xs : List Nat) : Prop := w.ownsRow B 3 1 v xs.length (xs.map intV)
theorem info64 : (Tryz.prog.info? 3).map (fun i => (i.zero, i.size, i.bytes)) = some (some (.int .i64 0), 1, 8) := by kernel_rfl
theorem Own64.nil (w : World) (B : Nat) : Own64 w B (.slice none 0 0) [] := World.ownsRow_nil _ _ _ _
theorem Own64.alloc {w : World} {B : Nat} {v : Value} {xs : List Nat} (h : Own64 w B v xs) (o : Obj) : Own64 (w.alloc o) B v xs := World.ownsRow.alloc h o
theorem Own64.later {w w' : World} {B : Nat} {v : Value} {xs : List Nat} (h : Own64 w B v xs) (hb : Below w.heap.size w w') : Own64 w' B v xs :=
  World.ownsRow.kept h (row := none) ⟨hb.os, hb.tape, hb.output, hb.size, fun k hk _ => hb.block k hk⟩ (by cases v.ownBlock <;> simp)
theorem Own64.below {w w' : World} {B : Nat} {v v' : Value} {xs : List Nat} (h : Own64 w B v xs) (hg : Grew v w v' w') (hB : B ≤ w.heap.size) : Below B w w' :=
  (Below.refl _ _).grown hg.by_ hB (fun q hq => (World.ownsRow.lt h q hq).1)
theorem Own64.cells {w : World} {B : Nat} {v : Value} {xs : List Nat} (h : Own64 w B v xs) : ∃ al c, v = .slice al xs.length c ∧ ∀ (j n : Nat), xs[j]? = some n → ∃ g, al = some ⟨g, 0, none⟩ ∧ B ≤ g ∧ g < w.heap.size ∧ w.cell? ⟨g, j, none⟩ = some (.int .i64 (n : Int)) := by
  have hc := fun g => World.ownsRow.cells h (g := g)
  obtain ⟨_, ⟨rfl, h2⟩ | ⟨g, cap, cur, rfl, h2, h3, _⟩⟩ := h
  · have e : xs = [] := List.eq_nil_of_length_eq_zero h2
    subst e
    exact ⟨none, 0, rfl, fun j y hj => by simp at hj⟩
  · refine ⟨some ⟨g, 0, none⟩, cap, rfl, fun j y hj => ⟨g, rfl, h2, (Array.getElem?_eq_some_iff.1 h3).1, ?_⟩⟩
    have := hc g rfl j (intV y) (by simp [hj])
    rw [Lib.add_plain, Nat.zero_add] at this
    exact this
theorem run_app64 {W : World} (B : Nat) (ty : TypeId) (v : Value) (xs : List Nat) (hown : Own64 W B v xs) (g : Nat) (ys : List Nat) (c : Nat) (hc : ∀ (j n : Nat), ys[j]? = some n → W.cell? ⟨g, j, none⟩ = some (.int .i64 (n : Int)))
    (hlim : xs.length + ys.length ≤ 1000000000) (hB : B ≤ W.heap.size) :
    ∃ v' w', (Builtin.append_ #[32, 32] ty #[v, .slice (some ⟨g, 0, none⟩) ys.length c]).run Tryz.prog W = .ok v' w' ∧ Own64 w' B v' (xs ++ ys) ∧ Grew v W v' w' := by
  obtain ⟨i0, hi, hz0, hz1, hz2⟩ := info_parts info64
  obtain ⟨v', w', hr, h2, h3, _, h5⟩ := run_append_own_at (P := Tryz.prog) W B 32 ty 3 i0 (.int .i64 0) 1 8 Tryz.underlying32 hi hz0 hz1 hz2 rfl (by decide) v xs.length (xs.map intV) hown ⟨g, 0, none⟩ ys.length c (ys.map intV) (by simp) (fun j u hj => by
      rw [Lib.add_plain, Nat.zero_add]
      simp only [List.getElem?_map, Option.map_eq_some_iff] at hj
      obtain ⟨n, hn, rfl⟩ := hj
      exact hc j n hn) (fun u hu => by obtain ⟨b, _, rfl⟩ := List.mem_map.1 hu; rfl) (by unfold maxLen; omega) (by omega) hB
  refine ⟨v', w', hr, ?_, h3, h5.imp id (fun e => ⟨_, e, Nat.le_refl _⟩)⟩
  unfold Own64; rw [List.length_append, List.map_append]; exact h2
section
variable {W : World} {ops : Array Oper} {rest : List Oper} {o : Oper} {a : Act} {Q : Exit → Act → World → Prop}
theorem wpApp64 (hgd : o.guard = none) (s x : Operand) (ho : o.op = .call { callee := .builtin .append, args := #[s, x], argTypes := #[32, 32] })
    (B : Nat) (v : Value) (xs : List Nat) (hs : a.eval s = v) (hown : Own64 W B v xs) (g : Nat) (ys : List Nat) (m c : Nat) (hx : a.eval x = .slice (some ⟨g, 0, none⟩) m c)
    (hm : ys.length = m) (hc : ∀ (j n : Nat), ys[j]? = some n → W.cell? ⟨g, j, none⟩ = some (.int .i64 (n : Int))) (hlim : xs.length + m ≤ 1000000000) (hB : B ≤ W.heap.size)
    (h : ∀ v' w', Own64 w' B v' (xs ++ ys) → Grew v W v' w' → wpList Tryz.prog ops Q rest (a.put o.dst v') w') :
    wpList Tryz.prog ops Q (o :: rest) a W := by
  subst hm
  obtain ⟨v', w', hr, h2, h3⟩ := run_app64 (W := W) B o.type v xs hown g ys c hc hlim hB
  refine wpList_plain hgd fun K hK => ?_
  unfold Oper.wp execOp
  simp only [ho, resolve, invoke, builtin, Sem.run_bind, Sem.run_pure, Result.andThen_ok, List.map_toArray, List.map_cons, List.map_nil, hs, hx, hr]
  exact hK _ _ (h v' w' h2 h3)
end
theorem one64 {w : World} {n : Nat} {t : TypeId} : ∀ (j m : Nat), [n][j]? = some m → (w.alloc (.cells #[.int .i64 (n : Int)] t)).cell? ⟨w.heap.size, j, none⟩ = some (.int .i64 (m : Int)) := fun j m hj => by
  match j, hj with
  | 0, hj => simp at hj; subst hj; rw [World.cell?_alloc_at _ _ _ _ rfl]; rfl
  | j + 1, hj => simp at hj
end Go.Proofs.YtflcibmjblioaaaGreatDoor

/-
  The tables of a file, the last one first: plain facts.
-/
namespace Go.Proofs.YtflcibmjblioaaaGreatDoor
open Go.RowKit Go.Lib Go.Maps
set_option maxRecDepth 1000000

def prevN : ByteArray := ⟨#[80, 114, 101, 118]⟩
/-- A table: where it stands, what it tells, its last words. -/
structure TabF where
  a : Nat
  sp : List (Nat × List Nat)
  v : V
/-- A table stands in a text. -/
def RdTab (s : ByteArray) (x : TabF) : Prop := wordP s x.a = ⟨xrefW.toArray⟩ ∧ x.a ≤ s.size ∧ (∀ y ∈ x.sp, y.1 < 100 ∧ y.2.length < 100 ∧ ∀ p ∈ y.2, p < 100000) ∧ x.v.k = 6 ∧ x.v.cnt ≤ 1048576 ∧ ∃ b c z, RdSps s (x.a + 4) x.sp b ∧ TokF s b trailW c ∧ pV s (c : Int) = (x.v, 0, z)
/-- Tables that lead to each other. -/
def Links (s : ByteArray) : TabF → List TabF → Prop
  | x, [] => RdTab s x ∧ getF prevN x.v.f = none
  | x, y :: T => RdTab s x ∧ (∃ g, getF prevN x.v.f = some g ∧ g.k = 2 ∧ g.n = (y.a : Int) * 1000) ∧ Links s y T
theorem Links.tab {s : ByteArray} {x : TabF} {T : List TabF} (h : Links s x T) : RdTab s x := by cases T <;> exact h.1
def totS : List TabF → Nat
  | [] => 0
  | x :: T => x.sp.length + totS T
theorem totS_snoc : ∀ (T : List TabF) (x : TabF), totS (T ++ [x]) = totS T + x.sp.length
  | [], x => by simp [totS]
  | y :: T, x => by rw [List.cons_append, totS, totS_snoc T, totS]; omega
theorem totS_app : ∀ (T U : List TabF), totS (T ++ U) = totS T + totS U
  | [], U => by simp [totS]
  | y :: T, U => by rw [List.cons_append, totS, totS_app T, totS]; omega
/-- What tables tell, the last one first. -/
def tellT (m : Int → Option Int) : List TabF → (Int → Option Int)
  | [] => m
  | x :: T => tellT (tellS m x.sp) T
theorem tellT_snoc : ∀ (T : List TabF) (m : Int → Option Int) (x : TabF), tellT m (T ++ [x]) = tellS (tellT m T) x.sp
  | [], _, _ => rfl
  | y :: T, m, x => by rw [List.cons_append, tellT, tellT_snoc T]; rfl
/-- What a call has read lies in a block of its own. -/
structure Got (wr wq : World) (mb Q n : Nat) (m : Int → Option Int) (v : V) (k q : Int) (t : ByteArray) (a1 a2 : Option Addr) (l1 p1 l2 p2 : Nat) : Prop where
  at_ : At wq Q 40 #[.int .i64 k, .int .i64 q, .string t, .slice a1 l1 p1, .slice a2 l2 p2]
  le : wr.heap.size ≤ Q
  rep : Hid (RepIn (fun b => wr.heap.size ≤ b ∧ b < wq.heap.size) 9 wq v [.int .i64 k, .int .i64 q, .string t, .slice a1 l1 p1, .slice a2 l2 p2])
  map : ∃ n', n' ≤ n ∧ MapZ wq mb n' m
  keep : KeepS (fun k => k = mb) wr wq
end Go.Proofs.YtflcibmjblioaaaGreatDoor

/-
  The tables of a file, the last one first: worlds.
-/
namespace Go.Proofs.YtflcibmjblioaaaGreatDoor
open Go.RowKit Go.Lib Go.Maps
set_option maxRecDepth 1000000

/-- The block was laid behind the call; nothing was drawn. -/
theorem got_c {wr w5 : World} {mb n : Nat} {m : Int → Option Int} {v : V} {k q : Int} {t : ByteArray} {a1 a2 : Option Addr} {l1 p1 l2 p2 : Nat}
    (H5 : Hid (RepIn (fun b => wr.heap.size ≤ b ∧ b < w5.heap.size) 9 w5 v [.int .i64 k, .int .i64 q, .string t, .slice a1 l1 p1, .slice a2 l2 p2])) (hM : ∃ n', n' ≤ n ∧ MapZ w5 mb n' m) (hK : KeepS (fun k => k = mb) wr w5) :
    Got wr (w5.alloc (.cells #[.int .i64 k, .int .i64 q, .string t, .slice a1 l1 p1, .slice a2 l2 p2] 40)) mb w5.heap.size n m v k q t a1 a2 l1 p1 l2 p2 := by
  have hB5 := below_box w5 (.cells #[.int .i64 k, .int .i64 q, .string t, .slice a1 l1 p1, .slice a2 l2 p2] 40)
  refine ⟨At.new w5 _ _ rfl, hK.size, hid ((H5.out.agree hB5.size fun b hb => hB5.block b hb.2).mono fun b hb => ⟨hb.1, Nat.lt_of_lt_of_le hb.2 hB5.size⟩), ?_, ?_⟩
  · obtain ⟨n', h1, h2⟩ := hM
    exact ⟨n', h1, h2.later hB5⟩
  · exact hK.wide (.of (S := fun _ => False) hB5) (fun i hi h => h.elim)
/-- What a file holds when some of its tables have been read. -/
def Been (F mb B n : Nat) (s : ByteArray) (tb : Int) (m : Int → Option Int) (done : List TabF) (w wr : World) : Prop :=
  ∃ c0 c1 c2 c3 c4, FileAt wr F s (.map (some mb)) tb c0 c1 c2 c3 c4 ∧ (∃ n', n' ≤ n + 100 * totS done ∧ MapZ wr mb n' (tellT m done)) ∧ KeepS (fun k => k = mb ∨ k = F) w wr ∧ w.heap.size ≤ B ∧ B ≤ wr.heap.size ∧
    ∀ y T, done = y :: T → Hid (RepIn (fun b => w.heap.size ≤ b ∧ b < B) 9 wr y.v [c0, c1, c2, c3, c4])
/-- What reading all tables says. -/
def TabsRes (F mb n : Nat) (s : ByteArray) (tb : Int) (m : Int → Option Int) (x : TabF) (T : List TabF) (w w' : World) : Prop :=
  ∃ c0 c1 c2 c3 c4, FileAt w' F s (.map (some mb)) tb c0 c1 c2 c3 c4 ∧ (∃ n', n' ≤ n + 100 * totS (x :: T) ∧ MapZ w' mb n' (tellT m (x :: T))) ∧ KeepS (fun k => k = mb ∨ k = F) w w' ∧
    Hid (RepIn (fun b => w.heap.size ≤ b ∧ b < w'.heap.size) 9 w' x.v [c0, c1, c2, c3, c4])
theorem KeepS.appended {wr W w8 : World} {B : Nat} {v v' : Value} {xs : List Nat} (h : Own64 wr B v xs) (hg : Grew v W v' w8) : KeepS (fun k => B ≤ k ∧ k < wr.heap.size) W w8 :=
  ⟨hg.by_.os, hg.by_.tape, hg.by_.output, hg.by_.size, fun k hk hn => hg.by_.block k hk (fun e => hn (World.ownsRow.lt h k e.symm))⟩
theorem Own64.keepS {w w' : World} {B mb : Nat} {v : Value} {xs : List Nat} (h : Own64 w B v xs) (hk : KeepS (fun k => k = mb) w w') (hm : mb < B) : Own64 w' B v xs :=
  World.ownsRow.kept h (row := some mb) ⟨hk.os, hk.tape, hk.output, hk.size, fun k hk' hne => hk.block k hk' (fun e => hne (by rw [e]))⟩ (.inr fun e => by have := (World.ownsRow.lt h _ e).1; omega)
theorem FileAt.cell5 {w : World} {F : Nat} {s : ByteArray} {mp : Value} {tb : Int} {c0 c1 c2 c3 c4 : Value} (h : FileAt w F s mp tb c0 c1 c2 c3 c4) (d0 d1 d2 d3 d4 : Value) :
    FileAt (((((w.setCell ⟨F, 3, none⟩ d0).setCell ⟨F, 4, none⟩ d1).setCell ⟨F, 5, none⟩ d2).setCell ⟨F, 6, none⟩ d3).setCell ⟨F, 7, none⟩ d4) F s mp tb d0 d1 d2 d3 d4 := by
  have h0 := heap_setCell_same w F 3 _ _ d0 h
  have h1 := heap_setCell_same _ F 4 _ _ d1 h0
  have h2 := heap_setCell_same _ F 5 _ _ d2 h1
  have h3 := heap_setCell_same _ F 6 _ _ d3 h2
  exact heap_setCell_same _ F 7 _ _ d4 h3
theorem keep_file5 {w : World} {F : Nat} (d0 d1 d2 d3 d4 : Value) : KeepS (fun k => k = F) w (((((w.setCell ⟨F, 3, none⟩ d0).setCell ⟨F, 4, none⟩ d1).setCell ⟨F, 5, none⟩ d2).setCell ⟨F, 6, none⟩ d3).setCell ⟨F, 7, none⟩ d4) := by
  have r : (fun k => k = F) F := rfl
  exact (((((KeepS.refl (fun k => k = F) w).set (P := F) r 3 d0).set (P := F) r 4 d1).set (P := F) r 5 d2).set (P := F) r 6 d3).set (P := F) r 7 d4
/-- A round's state behind the appending: what was read lies there, the file holds the last words of the first. -/
structure Mid (F mb B n : Nat) (s : ByteArray) (tb : Int) (m : Int → Option Int) (done : List TabF) (x : TabF) (Q : Nat) (k q : Int) (t : ByteArray) (a1 a2 : Option Addr) (l1 p1 l2 p2 : Nat) (w w9 : World) : Prop where
  at_ : At w9 Q 40 #[.int .i64 k, .int .i64 q, .string t, .slice a1 l1 p1, .slice a2 l2 p2]
  rep : Hid (RepN 9 w9 x.v [.int .i64 k, .int .i64 q, .string t, .slice a1 l1 p1, .slice a2 l2 p2])
  been : Hid (Been F mb B n s tb m (done ++ [x]) w w9)
/-- One that is not the first. -/
theorem mid_later {F mb B n N Q : Nat} {s : ByteArray} {tb : Int} {m : Int → Option Int} {y : TabF} {T : List TabF} {x : TabF} {k q : Int} {t : ByteArray} {a1 a2 : Option Addr} {l1 p1 l2 p2 : Nat} {w wr wq W7 w8 : World} {v v' : Value} {xs : List Nat} (hB : Been F mb B n s tb m (y :: T) w wr)
    (hG : Got wr wq mb Q N (tellS (tellT m (y :: T)) x.sp) x.v k q t a1 a2 l1 p1 l2 p2) (hN : N ≤ n + 100 * totS (y :: T) + 100 * x.sp.length) (h7 : Below wq.heap.size wq W7) (hO : Own64 wr B v xs) (hg : Grew v W7 v' w8) (hF : F < w.heap.size) (hm : mb < w.heap.size) (hFm : F ≠ mb) : Mid F mb B n s tb m (y :: T) x Q k q t a1 a2 l1 p1 l2 p2 w w8 := by
  obtain ⟨c0, c1, c2, c3, c4, hF1, ⟨_, _, _⟩, hK1, hB1, hB2, hR1⟩ := hB
  have hK8 := KeepS.appended hO hg
  have hKq : KeepS (fun k => k = mb ∨ (B ≤ k ∧ k < wr.heap.size)) wr w8 := by
    refine ((hG.keep.mono (fun k h => .inl h)).wide (.of (S := fun _ => False) h7) (fun i hi h => h.elim)).wide hK8 (fun i hi h => .inr h)
  have hs7 := h7.size
  have hz := hG.at_.lt
  have hle := hG.le
  have hsz := hG.keep.size
  have hs8 := hK8.size
  refine ⟨hK8.at_ (hG.at_.later h7) (by omega), hid ((hG.rep.out.agree (by omega) fun b hb => (hK8.block b (by omega) (by omega)).trans (h7.block b hb.2)).now), hid ⟨c0, c1, c2, c3, c4, hKq.at_ hF1 (by omega), ?_, ?_, hB1, by omega, fun y' T' e => ?_⟩⟩
  · obtain ⟨n2, h1, h2⟩ := hG.map
    refine ⟨n2, by rw [totS_snoc]; omega, ?_⟩
    rw [tellT_snoc]
    exact (h2.later h7).keepS hK8 (by omega)
  · exact hK1.wide hKq (fun i hi h => by omega)
  · injection e with e1 _
    subst e1
    exact hid ((hR1 y T rfl).out.agree hKq.size fun b hb => hKq.block b (by omega) (by omega))
/-- The first one. -/
theorem mid_first {F mb B n N Q : Nat} {s : ByteArray} {tb : Int} {m : Int → Option Int} {x : TabF} {k q : Int} {t : ByteArray} {a1 a2 : Option Addr} {l1 p1 l2 p2 : Nat} {w wr wq W7 w8 : World} (hB : Been F mb B n s tb m [] w wr)
    (hG : Got wr wq mb Q N (tellS (tellT m []) x.sp) x.v k q t a1 a2 l1 p1 l2 p2) (hN : N ≤ n + 100 * x.sp.length) (h7 : Below wq.heap.size wq W7) (hg : Below wq.heap.size W7 w8) (hF : F < w.heap.size) (_hm : mb < w.heap.size) (hFm : F ≠ mb) :
    Mid F mb wq.heap.size n s tb m [] x Q k q t a1 a2 l1 p1 l2 p2 w (((((w8.setCell ⟨F, 3, none⟩ (.int .i64 k)).setCell ⟨F, 4, none⟩ (.int .i64 q)).setCell ⟨F, 5, none⟩ (.string t)).setCell ⟨F, 6, none⟩ (.slice a1 l1 p1)).setCell ⟨F, 7, none⟩ (.slice a2 l2 p2)) := by
  obtain ⟨c0, c1, c2, c3, c4, hF1, ⟨_, _, _⟩, hK1, hB1, hB2, _⟩ := hB
  have h8 : Below wq.heap.size wq w8 := h7.trans hg
  have hKf := keep_file5 (w := w8) (F := F) (.int .i64 k) (.int .i64 q) (.string t) (.slice a1 l1 p1) (.slice a2 l2 p2)
  have hFq : FileAt wq F s (.map (some mb)) tb c0 c1 c2 c3 c4 := hG.keep.at_ hF1 (by omega)
  have hF8 := FileAt.cell5 (hFq.later h8) (.int .i64 k) (.int .i64 q) (.string t) (.slice a1 l1 p1) (.slice a2 l2 p2)
  generalize World.setCell _ _ _ = w9 at hKf hF8 ⊢
  have hz := hG.at_.lt
  have hle := hG.le
  have hsz := hG.keep.size
  have hws := hK1.size
  have hs8 := h8.size
  have hs9 := hKf.size
  have hrep : Hid (RepIn (fun b => w.heap.size ≤ b ∧ b < wq.heap.size) 9 w9 x.v [.int .i64 k, .int .i64 q, .string t, .slice a1 l1 p1, .slice a2 l2 p2]) := hid ((hG.rep.out.agree (by omega) fun b hb => (hKf.block b (by omega) (by omega)).trans (h8.block b hb.2)).mono fun b hb => ⟨by omega, hb.2⟩)
  refine ⟨hKf.at_ (hG.at_.later h8) (by omega), hid hrep.out.now, hid ⟨_, _, _, _, _, hF8, ?_, ?_, by omega, by omega, fun y' T' e => ?_⟩⟩
  · obtain ⟨n2, h1, h2⟩ := hG.map
    refine ⟨n2, by show n2 ≤ n + 100 * (x.sp.length + 0); omega, ?_⟩
    exact (h2.later h8).keepS hKf (by omega)
  · exact ((hK1.wide hG.keep (fun i hi h => .inl h)).wide (.of (S := fun _ => False) h8) (fun i hi h => h.elim)).wide hKf (fun i hi h => .inr h)
  · simp only [List.nil_append] at e
    injection e with e1 _
    subst e1
    exact hrep
theorem Been.later {F mb B n : Nat} {s : ByteArray} {tb : Int} {m : Int → Option Int} {done : List TabF} {w wr w' : World} (h : Been F mb B n s tb m done w wr) (hb : Below wr.heap.size wr w') : Been F mb B n s tb m done w w' := by
  obtain ⟨c0, c1, c2, c3, c4, h1, ⟨n', h2, h3⟩, h4, h5, h6, h7⟩ := h
  exact ⟨c0, c1, c2, c3, c4, h1.later hb, ⟨n', h2, h3.later hb⟩, h4.trans (.of hb), h5, Nat.le_trans h6 hb.size, fun y T e => hid ((h7 y T e).out.agree hb.size fun b hb' => hb.block b (by omega))⟩
theorem Been.end_ {F mb B n : Nat} {s : ByteArray} {tb : Int} {m : Int → Option Int} {x : TabF} {T : List TabF} {w w' : World} (h : Been F mb B n s tb m (x :: T) w w') : TabsRes F mb n s tb m x T w w' := by
  obtain ⟨c0, c1, c2, c3, c4, h1, h2, h4, h5, h6, h7⟩ := h
  exact ⟨c0, c1, c2, c3, c4, h1, h2, h4, hid ((h7 x T rfl).out.mono fun b hb => ⟨hb.1, by omega⟩)⟩
end Go.Proofs.YtflcibmjblioaaaGreatDoor
