/-
  Rows that are put in order in place, plainly: a row is a function of a place.
-/
import Derived.PlainAid
namespace Go.Proofs.Ytogdfjkbkhnobaa
set_option maxRecDepth 100000

/-- Two places are exchanged. -/
def swp (f : Nat → Int) (i j : Nat) : Nat → Int := fun k => if k = i then f j else if k = j then f i else f k
/-- Two parts of n places are exchanged. -/
def swR (f : Nat → Int) (a b n : Nat) : Nat → Int := fun k => if a ≤ k ∧ k < a + n then f (b + (k - a)) else if b ≤ k ∧ k < b + n then f (a + (k - b)) else f k
/-- From a to m and from m to b: the second ahead of the first. -/
def rotI (a m b : Nat) (k : Nat) : Nat := if a ≤ k ∧ k < a + (b - m) then m + (k - a) else if a + (b - m) ≤ k ∧ k < b then k - (b - m) else k
def rot (f : Nat → Int) (a m b : Nat) : Nat → Int := fun k => f (rotI a m b k)

theorem swR_zero (f : Nat → Int) (a b : Nat) : swR f a b 0 = f := by
  funext k; unfold swR
  rw [if_neg (by omega), if_neg (by omega)]
theorem swR_succ (f : Nat → Int) (a b n : Nat) (h : a + (n + 1) ≤ b) : swp (swR f a b n) (a + n) (b + n) = swR f a b (n + 1) := by
  funext k
  simp only [swp, swR]
  repeat' split
  all_goals first | rfl | (exfalso; omega) | (congr 1; omega)
theorem rot_end (f : Nat → Int) (m i : Nat) (h : i ≤ m) : swR f (m - i) m i = rot f (m - i) m (m + i) := by
  funext k
  simp only [swR, rot, rotI]
  repeat' split
  all_goals first | rfl | (exfalso; omega) | (congr 1; omega)
theorem rot_gt (f : Nat → Int) (m i j : Nat) (h : i ≤ m) (hj : j < i) : rot (swR f (m - i) m j) (m - (i - j)) m (m + j) = rot f (m - i) m (m + j) := by
  funext k
  simp only [swR, rot, rotI]
  repeat' split
  all_goals first | rfl | (exfalso; omega) | (congr 1; omega)
theorem rot_lt (f : Nat → Int) (m i j : Nat) (h : i ≤ m) (hj : i < j) : rot (swR f (m - i) (m + j - i) i) (m - i) m (m + (j - i)) = rot f (m - i) m (m + j) := by
  funext k
  simp only [swR, rot, rotI]
  repeat' split
  all_goals first | rfl | (exfalso; omega) | (congr 1; omega)
theorem rot_first (f : Nat → Int) (a : Nat) : rot f a (a + 1) (a + 1) = f := by
  funext k
  simp only [rot, rotI]
  repeat' split
  all_goals first | rfl | (exfalso; omega) | (congr 1; omega)
theorem rot_up (f : Nat → Int) (a k : Nat) (h : a ≤ k) : swp (rot f a (a + 1) (k + 1)) k (k + 1) = rot f a (a + 1) (k + 2) := by
  funext x
  simp only [swp, rot, rotI]
  repeat' split
  all_goals first | rfl | (exfalso; omega) | (congr 1; omega)
theorem rot_last (f : Nat → Int) (m : Nat) : rot f m m (m + 1) = f := by
  funext k
  simp only [rot, rotI]
  repeat' split
  all_goals first | rfl | (exfalso; omega) | (congr 1; omega)
theorem rot_down (f : Nat → Int) (m k : Nat) (h : k + 1 ≤ m) : swp (rot f (k + 1) m (m + 1)) (k + 1) k = rot f k m (m + 1) := by
  funext x
  simp only [swp, rot, rotI]
  repeat' split
  all_goals first | rfl | (exfalso; omega) | (congr 1; omega)
theorem rot_same (f : Nat → Int) (a m : Nat) : rot f a m m = f ∧ rot f m m a = f := by
  constructor
  · funext k
    simp only [rot, rotI]
    repeat' split
    all_goals first | rfl | (exfalso; omega) | (congr 1; omega)
  · funext k
    simp only [rot, rotI]
    repeat' split
    all_goals first | rfl | (exfalso; omega) | (congr 1; omega)

/-- The one row is the other, put in another order from a to b. -/
structure PR (f g : Nat → Int) (a b : Nat) (p q : Nat → Nat) : Prop where
  eq : ∀ k, g k = f (p k)
  qp : ∀ k, q (p k) = k
  pq : ∀ k, p (q k) = k
  inn : ∀ k, a ≤ k → k < b → a ≤ p k ∧ p k < b
  out : ∀ k, k < a ∨ b ≤ k → p k = k
def Prm (f g : Nat → Int) (a b : Nat) : Prop := ∃ p q, PR f g a b p q
theorem Prm.refl (f : Nat → Int) (a b : Nat) : Prm f f a b := ⟨id, id, fun _ => rfl, fun _ => rfl, fun _ => rfl, fun _ h1 h2 => ⟨h1, h2⟩, fun _ _ => rfl⟩
theorem Prm.trans {f g h : Nat → Int} {a b : Nat} (x : Prm f g a b) (y : Prm g h a b) : Prm f h a b := by
  obtain ⟨p, q, x⟩ := x
  obtain ⟨p', q', y⟩ := y
  refine ⟨p ∘ p', q' ∘ q, fun k => by rw [y.eq, x.eq]; rfl, fun k => ?_, fun k => ?_, fun k h1 h2 => ?_, fun k hk => ?_⟩
  · show q' (q (p (p' k))) = k
    rw [x.qp, y.qp]
  · show p (p' (q' (q k))) = k
    rw [y.pq, x.pq]
  · obtain ⟨h3, h4⟩ := y.inn k h1 h2
    exact x.inn _ h3 h4
  · show p (p' k) = k
    rw [y.out k hk, x.out k hk]
theorem Prm.wide {f g : Nat → Int} {a b c d : Nat} (x : Prm f g a b) (h1 : c ≤ a) (h2 : b ≤ d) : Prm f g c d := by
  obtain ⟨p, q, x⟩ := x
  refine ⟨p, q, x.eq, x.qp, x.pq, fun k k1 k2 => ?_, fun k hk => x.out k (by omega)⟩
  by_cases hk : a ≤ k ∧ k < b
  · have := x.inn k hk.1 hk.2; omega
  · rw [x.out k (by omega)]; exact ⟨k1, k2⟩
theorem Prm.outside {f g : Nat → Int} {a b : Nat} (x : Prm f g a b) {k : Nat} (h : k < a ∨ b ≤ k) : g k = f k := by
  obtain ⟨p, q, x⟩ := x
  rw [x.eq, x.out k h]
theorem Prm.all {f g : Nat → Int} {a b : Nat} (x : Prm f g a b) {P : Int → Prop} (h : ∀ k, a ≤ k → k < b → P (f k)) (k : Nat) (h1 : a ≤ k) (h2 : k < b) : P (g k) := by
  obtain ⟨p, q, x⟩ := x
  rw [x.eq]
  obtain ⟨h3, h4⟩ := x.inn k h1 h2
  exact h _ h3 h4
theorem Prm.swp {f : Nat → Int} {a b i j : Nat} (hi : a ≤ i ∧ i < b) (hj : a ≤ j ∧ j < b) : Prm f (swp f i j) a b := by
  let p : Nat → Nat := fun k => if k = i then j else if k = j then i else k
  have hp : ∀ k, p k = if k = i then j else if k = j then i else k := fun _ => rfl
  refine ⟨p, p, fun k => ?_, fun k => ?_, fun k => ?_, fun k h1 h2 => ?_, fun k hk => ?_⟩
  · rw [hp]; unfold Go.Proofs.Ytogdfjkbkhnobaa.swp
    repeat' split
    all_goals rfl
  · rw [hp, hp]; repeat' split
    all_goals omega
  · rw [hp, hp]; repeat' split
    all_goals omega
  · rw [hp]; repeat' split
    all_goals omega
  · rw [hp]; repeat' split
    all_goals omega
theorem Prm.rot {f : Nat → Int} {a m b : Nat} (h1 : a ≤ m) (h2 : m ≤ b) : Prm f (rot f a m b) a b := by
  refine ⟨rotI a m b, rotI a (a + (b - m)) b, fun k => rfl, fun k => ?_, fun k => ?_, fun k h1 h2 => ?_, fun k hk => ?_⟩
  all_goals
    simp only [rotI]
    repeat' split
    all_goals omega

section
variable (key : Int → Int) (tie : Int → Int → Prop)
/-- Ahead of: by what it is put in order by; of the same as they stood. -/
def Lt (x y : Int) : Prop := key x < key y ∨ (key x = key y ∧ tie x y)
def Srt (f : Nat → Int) (a b : Nat) : Prop := ∀ i j, a ≤ i → i < j → j < b → Lt key tie (f i) (f j)
def Crs (f : Nat → Int) (a m b : Nat) : Prop := ∀ i j, a ≤ i → i < m → m ≤ j → j < b → tie (f i) (f j)
/-- What the order as they stood is: none ahead of itself, and never both. -/
structure TieOk : Prop where
  asym : ∀ x y, tie x y → ¬ tie y x
  tr : ∀ x y z, tie x y → tie y z → tie x z
end
section
variable {key : Int → Int} {tie : Int → Int → Prop}
theorem Lt.trans (ht : TieOk tie) {x y z : Int} (h : Lt key tie x y) (k : Lt key tie y z) : Lt key tie x z := by
  unfold Lt at *
  rcases h with h | ⟨h, h'⟩ <;> rcases k with k | ⟨k, k'⟩
  · exact .inl (by omega)
  · exact .inl (by omega)
  · exact .inl (by omega)
  · exact .inr ⟨by omega, ht.tr _ _ _ h' k'⟩
theorem lt_of_key {x y : Int} (h : key y < key x) : Lt key tie y x := .inl h
theorem lt_of_not {x y : Int} (h : ¬ key y < key x) (ht : tie x y) : Lt key tie x y := by
  by_cases e : key x = key y
  · exact .inr ⟨e, ht⟩
  · exact .inl (by omega)
theorem key_of_lt {x y : Int} (h : Lt key tie x y) : ¬ key y < key x := by
  rcases h with h | ⟨h, _⟩ <;> omega
theorem Srt.keep {f g : Nat → Int} {a b : Nat} (h : Srt key tie f a b) (e : ∀ k, a ≤ k → k < b → g k = f k) : Srt key tie g a b := fun i j h1 h2 h3 => by
  rw [e i (by omega) (by omega), e j (by omega) (by omega)]; exact h i j h1 h2 h3
theorem Srt.sub {f : Nat → Int} {a b c d : Nat} (h : Srt key tie f a b) (h1 : a ≤ c) (h2 : d ≤ b) : Srt key tie f c d := fun i j k1 k2 k3 => h i j (by omega) k2 (by omega)
/-- One row of two, each in order, all of the first ahead of all of the second. -/
theorem Srt.join {f : Nat → Int} {a m b : Nat} (h : Srt key tie f a m) (k : Srt key tie f m b) (s : ∀ i j, a ≤ i → i < m → m ≤ j → j < b → Lt key tie (f i) (f j)) : Srt key tie f a b := fun i j h1 h2 h3 => by
  by_cases hj : j < m
  · exact h i j h1 h2 hj
  · by_cases hi : i < m
    · exact s i j h1 hi (by omega) h3
    · exact k i j (by omega) h2 h3
/-- One of the left goes where it belongs. -/
theorem one_left (ht : TieOk tie) {f : Nat → Int} {a b i : Nat} (hs : Srt key tie f (a + 1) b) (hc : Crs tie f a (a + 1) b) (h1 : a + 1 ≤ i) (h2 : i ≤ b) (hlo : ∀ k, a + 1 ≤ k → k < i → key (f k) < key (f a)) (hhi : i < b → ¬ key (f i) < key (f a)) : Srt key tie (rot f a (a + 1) i) a b := by
  have up : ∀ k, i ≤ k → k < b → Lt key tie (f a) (f k) := fun k k1 k2 => by
    have hi : i < b := by omega
    have e : Lt key tie (f a) (f i) := lt_of_not (hhi hi) (hc a i (by omega) (by omega) (by omega) hi)
    by_cases e2 : i = k
    · subst e2; exact e
    · exact e.trans ht (hs i k h1 (by omega) k2)
  intro x y k1 k2 k3
  simp only [rot, rotI]
  repeat' split
  · exact hs _ _ (by omega) (by omega) (by omega)
  · have e : y - (i - (a + 1)) = a := by omega
    rw [e]; exact .inl (hlo _ (by omega) (by omega))
  · exact hs _ _ (by omega) (by omega) (by omega)
  · exfalso; omega
  · exfalso; omega
  · have e : x - (i - (a + 1)) = a := by omega
    rw [e]; exact up _ (by omega) k3
  · exfalso; omega
  · exfalso; omega
  · exact hs _ _ (by omega) (by omega) (by omega)
/-- One of the right goes where it belongs. -/
theorem one_right (ht : TieOk tie) {f : Nat → Int} {a m i : Nat} (hs : Srt key tie f a m) (hc : Crs tie f a m (m + 1)) (h1 : a ≤ i) (h2 : i ≤ m) (hlo : a < i → ¬ key (f m) < key (f (i - 1))) (hhi : ∀ k, i ≤ k → k < m → key (f m) < key (f k)) : Srt key tie (rot f i m (m + 1)) a (m + 1) := by
  have dn : ∀ k, a ≤ k → k < i → Lt key tie (f k) (f m) := fun k k1 k2 => by
    have e : Lt key tie (f (i - 1)) (f m) := lt_of_not (hlo (by omega)) (hc _ _ (by omega) (by omega) (by omega) (by omega))
    by_cases e2 : k = i - 1
    · subst e2; exact e
    · exact (hs k (i - 1) k1 (by omega) (by omega)).trans ht e
  intro x y k1 k2 k3
  simp only [rot, rotI]
  repeat' split
  · exfalso; omega
  · have e : m + (x - i) = m := by omega
    rw [e]; exact .inl (hhi _ (by omega) (by omega))
  · exfalso; omega
  · exfalso; omega
  · exact hs _ _ (by omega) (by omega) (by omega)
  · exfalso; omega
  · have e : m + (y - i) = m := by omega
    rw [e]; exact dn _ (by omega) (by omega)
  · exact hs _ _ (by omega) (by omega) (by omega)
  · exact hs _ _ (by omega) (by omega) (by omega)

/-- What stands where the two halves are parted. -/
structure Halved (key : Int → Int) (tie : Int → Int → Prop) (g : Nat → Int) (a st mid en b : Nat) : Prop where
  s1 : Srt key tie g a st
  s2 : Srt key tie g st mid
  c1 : Crs tie g a st mid
  s3 : Srt key tie g mid en
  s4 : Srt key tie g en b
  c2 : Crs tie g mid en b
  sep : ∀ i j, a ≤ i → i < mid → mid ≤ j → j < b → Lt key tie (g i) (g j)
theorem halved (ht : TieOk tie) {f : Nat → Int} {a m b st en mid : Nat} (ha : Srt key tie f a m) (hb : Srt key tie f m b) (hc : Crs tie f a m b) (h1 : a ≤ st) (h2 : st ≤ m) (h3 : m ≤ en) (h4 : en ≤ b) (hm : mid + m = st + en)
    (hlo : a < st → en < b → ¬ key (f en) < key (f (st - 1))) (hhi : st < m → m < en → key (f (en - 1)) < key (f st)) : Halved key tie (rot f st m en) a st mid en b := by
  have g1 : ∀ k, k < st → rot f st m en k = f k := fun k hk => by simp only [rot, rotI]; rw [if_neg (by omega), if_neg (by omega)]
  have g2 : ∀ k, st ≤ k → k < mid → rot f st m en k = f (m + (k - st)) := fun k hk hk2 => by simp only [rot, rotI]; rw [if_pos (by omega)]
  have g3 : ∀ k, mid ≤ k → k < en → rot f st m en k = f (k - (en - m)) := fun k hk hk2 => by simp only [rot, rotI]; rw [if_neg (by omega), if_pos (by omega)]
  have g4 : ∀ k, en ≤ k → rot f st m en k = f k := fun k hk => by simp only [rot, rotI]; rw [if_neg (by omega), if_neg (by omega)]
  refine ⟨fun i j k1 k2 k3 => ?_, fun i j k1 k2 k3 => ?_, fun i j k1 k2 k3 k4 => ?_, fun i j k1 k2 k3 => ?_, fun i j k1 k2 k3 => ?_, fun i j k1 k2 k3 k4 => ?_, fun i j k1 k2 k3 k4 => ?_⟩
  · rw [g1 i (by omega), g1 j (by omega)]; exact ha _ _ (by omega) (by omega) (by omega)
  · rw [g2 i (by omega) (by omega), g2 j (by omega) (by omega)]; exact hb _ _ (by omega) (by omega) (by omega)
  · rw [g1 i (by omega), g2 j (by omega) (by omega)]; exact hc _ _ (by omega) (by omega) (by omega) (by omega)
  · rw [g3 i (by omega) (by omega), g3 j (by omega) (by omega)]; exact ha _ _ (by omega) (by omega) (by omega)
  · rw [g4 i (by omega), g4 j (by omega)]; exact hb _ _ (by omega) (by omega) (by omega)
  · rw [g3 i (by omega) (by omega), g4 j (by omega)]; exact hc _ _ (by omega) (by omega) (by omega) (by omega)
  · -- the left half is ahead of the right one
    have cross1 : ∀ x y, a ≤ x → x < st → en ≤ y → y < b → Lt key tie (f x) (f y) := fun x y x1 x2 y1 y2 => by
      have e : Lt key tie (f (st - 1)) (f en) := lt_of_not (hlo (by omega) (by omega)) (hc _ _ (by omega) (by omega) (by omega) (by omega))
      have l : Lt key tie (f x) (f en) := by
        by_cases q : x = st - 1
        · rw [q]; exact e
        · exact (ha x (st - 1) x1 (by omega) (by omega)).trans ht e
      by_cases q : y = en
      · rw [q]; exact l
      · exact l.trans ht (hb en y (by omega) (by omega) y2)
    have cross2 : ∀ x y, st ≤ x → x < m → m ≤ y → y < en → Lt key tie (f y) (f x) := fun x y x1 x2 y1 y2 => by
      have e : Lt key tie (f (en - 1)) (f st) := .inl (hhi (by omega) (by omega))
      have l : Lt key tie (f (en - 1)) (f x) := by
        by_cases q : x = st
        · rw [q]; exact e
        · exact e.trans ht (ha st x (by omega) (by omega) x2)
      by_cases q : y = en - 1
      · rw [q]; exact l
      · exact (hb y (en - 1) y1 (by omega) (by omega)).trans ht l
    by_cases hi : i < st <;> by_cases hj : j < en
    · rw [g1 i hi, g3 j k3 hj]; exact ha _ _ (by omega) (by omega) (by omega)
    · rw [g1 i hi, g4 j (by omega)]; exact cross1 _ _ k1 hi (by omega) k4
    · rw [g2 i (by omega) k2, g3 j k3 hj]; exact cross2 _ _ (by omega) (by omega) (by omega) (by omega)
    · rw [g2 i (by omega) k2, g4 j (by omega)]; exact hb _ _ (by omega) (by omega) (by omega)
/-- Both halves put in order, each by itself, are one row in order. -/
theorem Halved.done {g x y : Nat → Int} {a st mid en b : Nat} (h : Halved key tie g a st mid en b) (p1 : Prm g x a mid) (s1 : Srt key tie x a mid) (p2 : Prm x y mid b) (s2 : Srt key tie y mid b) : Srt key tie y a b := by
  refine Srt.join (m := mid) (s1.keep fun k k1 k2 => p2.outside (by omega)) s2 fun i j h1 h2 h3 h4 => ?_
  rw [p2.outside (k := i) (by omega)]
  refine p2.all (P := fun z => Lt key tie (x i) z) (fun k k1 k2 => ?_) j h3 h4
  rw [p1.outside (k := k) (by omega)]
  exact p1.all (P := fun z => Lt key tie z (g k)) (fun q q1 q2 => h.sep q k q1 q2 k1 k2) i h1 h2
theorem Halved.right {g x : Nat → Int} {a st mid en b : Nat} (h : Halved key tie g a st mid en b) (p1 : Prm g x a mid) (hm : mid ≤ en) : Srt key tie x mid en ∧ Srt key tie x en b ∧ Crs tie x mid en b :=
  have e : ∀ k, mid ≤ k → x k = g k := fun k hk => p1.outside (by omega)
  ⟨h.s3.keep fun k k1 _ => e k k1, h.s4.keep fun k k1 _ => e k (by omega), fun i j k1 k2 k3 k4 => by rw [e i k1, e j (by omega)]; exact h.c2 i j k1 k2 k3 k4⟩

/-- All that stands ahead of a place stood ahead of all that stands from there on. -/
def CrA (tie : Int → Int → Prop) (f : Nat → Int) (c n : Nat) : Prop := ∀ i j, i < c → c ≤ j → j < n → tie (f i) (f j)
theorem CrA.keep {f g : Nat → Int} {a b c n : Nat} (h : CrA tie f c n) (p : Prm f g a b) (hb : b ≤ n) (hc : b ≤ c ∨ c ≤ a) : CrA tie g c n := fun i j h1 h2 h3 => by
  rcases hc with hc | hc
  · rw [p.outside (k := j) (by omega)]
    exact (p.wide (Nat.zero_le _) hc).all (P := fun z => tie z (f j)) (fun k _ k2 => h k j k2 h2 h3) i (Nat.zero_le _) h1
  · rw [p.outside (k := i) (by omega)]
    exact (p.wide hc hb).all (P := fun z => tie (f i) z) (fun k k1 k2 => h i k h1 k1 k2) j h2 h3
/-- Blocks of s, each in order; each ahead of the next as they stood. -/
def Blk (key : Int → Int) (tie : Int → Int → Prop) (f : Nat → Int) (s n : Nat) : Prop := (∀ u, Srt key tie f (u * s) (min (u * s + s) n)) ∧ ∀ u, CrA tie f (u * s) n
/-- Of f, g: t blocks of twice s are done. -/
structure Mg (key : Int → Int) (tie : Int → Int → Prop) (f g : Nat → Int) (s n t : Nat) : Prop where
  done : ∀ u, u < t → Srt key tie g (u * (2 * s)) (u * (2 * s) + 2 * s)
  rest : ∀ k, t * (2 * s) ≤ k → g k = f k
  crs : ∀ u, CrA tie g (u * (2 * s)) n
  prm : Prm f g 0 n
theorem dbl (u s : Nat) : u * (2 * s) = (2 * u) * s := by rw [← Nat.mul_assoc, Nat.mul_comm u 2]
theorem dbl1 (u s : Nat) : u * (2 * s) + s = (2 * u + 1) * s := by rw [dbl, Nat.add_mul, Nat.one_mul]
theorem Mg.start {f : Nat → Int} {s n : Nat} (h : Blk key tie f s n) : Mg key tie f f s n 0 :=
  ⟨fun u hu => by omega, fun _ _ => rfl, fun u => by rw [dbl]; exact h.2 _, Prm.refl _ _ _⟩
theorem Mg.need {f g : Nat → Int} {s n t b : Nat} (h : Mg key tie f g s n t) (hB : Blk key tie f s n) (h2 : b ≤ t * (2 * s) + 2 * s) (h3 : b ≤ n) : Srt key tie g (t * (2 * s)) (min (t * (2 * s) + s) n) ∧ Srt key tie g (t * (2 * s) + s) b ∧ Crs tie g (t * (2 * s)) (t * (2 * s) + s) b := by
  refine ⟨?_, ?_, fun i j k1 k2 k3 k4 => ?_⟩
  · have := hB.1 (2 * t)
    rw [← dbl] at this
    exact this.keep fun k k1 _ => h.rest k k1
  · have := hB.1 (2 * t + 1)
    rw [← dbl1] at this
    exact (this.sub (Nat.le_refl _) (by omega)).keep fun k k1 _ => h.rest k (by omega)
  · have := hB.2 (2 * t + 1)
    rw [← dbl1] at this
    rw [h.rest i k1, h.rest j (by omega)]
    exact this i j k2 k3 (by omega)
theorem mul_cases (s t u : Nat) : u < t ∧ u * s + s ≤ t * s ∨ u = t ∨ t < u ∧ t * s + s ≤ u * s := by
  rcases Nat.lt_trichotomy u t with h | h | h
  · exact .inl ⟨h, by have := Nat.mul_le_mul_right s h; rw [Nat.succ_mul] at this; exact this⟩
  · exact .inr (.inl h)
  · exact .inr (.inr ⟨h, by have := Nat.mul_le_mul_right s h; rw [Nat.succ_mul] at this; exact this⟩)
theorem Mg.step {f g g' : Nat → Int} {s n t : Nat} (h : Mg key tie f g s n t) (p : Prm g g' (t * (2 * s)) (t * (2 * s) + 2 * s)) (q : Srt key tie g' (t * (2 * s)) (t * (2 * s) + 2 * s)) (hn : t * (2 * s) + 2 * s ≤ n) : Mg key tie f g' s n (t + 1) := by
  refine ⟨fun u hu => ?_, fun k hk => ?_, fun u => ?_, h.prm.trans (p.wide (Nat.zero_le _) hn)⟩
  · rcases mul_cases (2 * s) t u with c | rfl | c
    · exact (h.done u c.1).keep fun k _ k2 => p.outside (by omega)
    · exact q
    · omega
  · rw [Nat.succ_mul] at hk
    rw [p.outside (by omega)]; exact h.rest k (by omega)
  · refine (h.crs u).keep p hn ?_
    rcases mul_cases (2 * s) t u with c | rfl | c <;> omega
theorem Mg.last {f g g' : Nat → Int} {s n t : Nat} (h : Mg key tie f g s n t) (p : Prm g g' (t * (2 * s)) n) (q : Srt key tie g' (t * (2 * s)) n) (h1 : t * (2 * s) ≤ n) (hn : n < t * (2 * s) + 2 * s) : Blk key tie g' (2 * s) n ∧ Prm f g' 0 n := by
  refine ⟨⟨fun u => ?_, fun u => ?_⟩, h.prm.trans (p.wide (Nat.zero_le _) (Nat.le_refl _))⟩
  · rcases mul_cases (2 * s) t u with c | rfl | c
    · exact ((h.done u c.1).keep fun k _ k2 => p.outside (by omega)).sub (Nat.le_refl _) (by omega)
    · exact q.sub (Nat.le_refl _) (by omega)
    · intro i j k1 k2 k3; omega
  · rcases mul_cases (2 * s) t u with c | rfl | c
    · exact (h.crs u).keep p (Nat.le_refl _) (by omega)
    · exact (h.crs u).keep p (Nat.le_refl _) (by omega)
    · intro i j k1 k2 k3; omega
/-- Of f, g: t blocks of twenty are put in order. -/
structure In20 (key : Int → Int) (tie : Int → Int → Prop) (f g : Nat → Int) (n t : Nat) : Prop where
  done : ∀ u, u < t → Srt key tie g (u * 20) (u * 20 + 20)
  rest : ∀ k, t * 20 ≤ k → g k = f k
  crs : ∀ u, CrA tie g (u * 20) n
  prm : Prm f g 0 n
def Told (tie : Int → Int → Prop) (f : Nat → Int) (a b : Nat) : Prop := ∀ i j, a ≤ i → i < j → j < b → tie (f i) (f j)
theorem In20.start {f : Nat → Int} {n : Nat} (h : Told tie f 0 n) : In20 key tie f f n 0 :=
  ⟨fun u hu => by omega, fun _ _ => rfl, fun u i j h1 h2 h3 => h i j (Nat.zero_le _) (by omega) h3, Prm.refl _ _ _⟩
theorem In20.need {f g : Nat → Int} {n t b : Nat} (h : In20 key tie f g n t) (hT : Told tie f 0 n) (hb : b ≤ n) : Told tie g (t * 20) b := fun i j h1 h2 h3 => by
  rw [h.rest i h1, h.rest j (by omega)]; exact hT i j (Nat.zero_le _) h2 (by omega)
theorem In20.step {f g g' : Nat → Int} {n t : Nat} (h : In20 key tie f g n t) (p : Prm g g' (t * 20) (t * 20 + 20)) (q : Srt key tie g' (t * 20) (t * 20 + 20)) (hn : t * 20 + 20 ≤ n) : In20 key tie f g' n (t + 1) := by
  refine ⟨fun u hu => ?_, fun k hk => ?_, fun u => ?_, h.prm.trans (p.wide (Nat.zero_le _) hn)⟩
  · by_cases c : u < t
    · exact (h.done u c).keep fun k _ k2 => p.outside (by omega)
    · have e : u = t := by omega
      subst e; exact q
  · rw [p.outside (by omega)]; exact h.rest k (by omega)
  · exact (h.crs u).keep p hn (by omega)
theorem In20.last {f g g' : Nat → Int} {n t : Nat} (h : In20 key tie f g n t) (p : Prm g g' (t * 20) n) (q : Srt key tie g' (t * 20) n) (h1 : t * 20 ≤ n) (hn : n < t * 20 + 20) : Blk key tie g' 20 n ∧ Prm f g' 0 n := by
  refine ⟨⟨fun u => ?_, fun u => ?_⟩, h.prm.trans (p.wide (Nat.zero_le _) (Nat.le_refl _))⟩
  · by_cases c : u < t
    · exact ((h.done u c).keep fun k _ k2 => p.outside (by omega)).sub (Nat.le_refl _) (by omega)
    · by_cases e : u = t
      · subst e; exact q.sub (Nat.le_refl _) (by omega)
      · intro i j k1 k2 k3; omega
  · by_cases c : u ≤ t
    · exact (h.crs u).keep p (Nat.le_refl _) (by omega)
    · intro i j k1 k2 k3; omega
theorem Blk.whole {f : Nat → Int} {s n : Nat} (h : Blk key tie f s n) (hs : n ≤ s) : Srt key tie f 0 n := by
  have := h.1 0
  rw [Nat.zero_mul] at this
  exact this.sub (Nat.le_refl _) (by omega)
end
end Go.Proofs.Ytogdfjkbkhnobaa
