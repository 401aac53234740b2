/-
  Joined: Iw, Ix, Ih.
-/
import Derived.Test.YtobpidmlgldnmaaGreatDoorIp
import Derived.Test.YtobpidmlgldnmaaGreatDoorIk
import Derived.Test.YtobpidmlgldnmaaGreatDoorGc
import Derived.Maps.OwnOps
import Derived.WalkKit
import Derived.Handy
import Derived.Carry

/-
  A painter: strings, lists of them and of numbers.
-/
namespace Go.Proofs.YtobpidmlgldnmaaGreatDoor
open Go.RowKit
set_option maxRecDepth 100000

set_option maxHeartbeats 1000000 in
theorem only_at (d : Nat) (A : List V) (t : Value) (k : Int) (w0 w : World) (hA : ArgsAt d w0 t A) (hB : Below w0.heap.size w0 w) :
    Calls Tryz.prog 72 #[t, .int .i64 k] w fun e w' => OnlyA d w0 e (onlyX A k) ∧ Below w.heap.size w w' := by
  have HB := hid hB
  clear hB
  obtain ⟨a, c, rfl, hlA, hA⟩ := hA
  unfold maxLen at hlA
  match A, hlA, hA with
  | [], hlA, hA =>
    clear hA hlA
    go_enter Tryz.func72, Tryz.ntmps72
    go_wp2_with fail
    refine bodyPost_ret (v := .tuple #[.agg #[.int .i64 0, .int .i64 0, .string ⟨#[]⟩, .slice none 0 0, .slice none 0 0], errV 8]) (by simp [results, Tryz.results72, go_sem, errV]) rfl ⟨rfl, by go_grown⟩
  | _ :: _ :: l, hlA, hA =>
    clear hA
    have e1 : (((l.length + 1 + 1 : Nat) : Int) == 1) = false := by simp; omega
    simp only [List.length_cons] at hlA ⊢
    go_enter Tryz.func72, Tryz.ntmps72
    go_wp2_with fail
    refine bodyPost_ret (v := .tuple #[.agg #[.int .i64 0, .int .i64 0, .string ⟨#[]⟩, .slice none 0 0, .slice none 0 0], errV 8]) (by simp [results, Tryz.results72, go_sem, errV]) rfl ⟨rfl, by go_grown⟩
  | [v], hlA, hA =>
    obtain ⟨b, off, cs, rfl, hbl, hc, hr⟩ := hA 0 v rfl
    have HR := hid hr
    have hc := hc.later hbl HB.out
    have hbl := Nat.lt_of_lt_of_le hbl HB.out.size
    obtain ⟨e', rfl⟩ := hr.inv
    obtain ⟨al, af, cl, cf, rfl, _⟩ := hr
    have m0 := hc 0 _ rfl
    have m1 := hc 1 _ rfl
    have m2 := hc 2 _ rfl
    have m3 := hc 3 _ rfl
    have m4 := hc 4 _ rfl
    simp only [Nat.zero_mul, Nat.add_zero] at m0 m1 m2 m3 m4
    clear hc hA hlA
    by_cases hk : v.k = k
    · subst hk
      go_enter Tryz.func72, Tryz.ntmps72
      go_wp2_with fail
      refine bodyPost_ret (v := .tuple #[.agg #[.int .i64 v.k, .int .i64 v.n, .string v.s, .slice al v.l.length cl, .slice af v.f.length cf], .nilIface]) (by simp [results, Tryz.results72, go_sem]) rfl ⟨?_, by go_grown⟩
      unfold onlyX
      simp only [if_true]
      exact ⟨_, rfl, HR.out⟩
    · have hk2 : (v.k == k) = false := by simpa using hk
      go_enter Tryz.func72, Tryz.ntmps72
      go_wp2_with fail
      refine bodyPost_ret (v := .tuple #[.agg #[.int .i64 0, .int .i64 0, .string ⟨#[]⟩, .slice none 0 0, .slice none 0 0], errV 8]) (by simp [results, Tryz.results72, go_sem, errV]) rfl ⟨?_, by go_grown⟩
      unfold onlyX
      simp only [if_neg hk]
      rfl
set_option maxHeartbeats 2000000 in
theorem lineAlong_keeps (K : Pk) (p : PS) (tS tG : Value) (x y : Int) (w : World) (hP : PAt K w p tS tG) :
    Calls Tryz.prog 71 #[.pointer (some ⟨K.P, 0, none⟩), .int .i64 x, .int .i64 y] w fun e w' => TRes K w tS tG e w' (lineX p x y) := by
  have HA := hid (along_says x y p.l)
  have k0 := hP.c 28
  have k1 := hP.c 29
  have k2 := hP.c 30
  have k3 := hP.c 31
  have k4 := hP.c 32
  have k5 := hP.c 33
  simp at k0 k1 k2 k3 k4 k5
  have z0 := hP.at_.lt
  have HP := hid hP
  clear hP
  obtain ⟨r, hr⟩ : ∃ r, alongX x y p.l = r := ⟨_, rfl⟩
  have HR := hid hr
  have hl : lineX p x y = r.bind fun m => .ok { p with t := m, l := m } := by unfold lineX; rw [hr]
  rw [hl]
  clear hl hr
  go_enter Tryz.func71, Tryz.ntmps71
  go_wp2_with (go_at_call 86; fail)
  go_at_call 86
  refine (HA.out _).mono ?_
  rintro e w1 ⟨hm, hb1⟩
  rw [HR.out] at hm
  have P1 := hid (HP.out.later hb1)
  have B1 := hid hb1
  have rf := P1.out.at_.free
  have c0 := P1.out.c 22
  have c1 := P1.out.c 23
  have c2 := P1.out.c 24
  have c3 := P1.out.c 25
  have c4 := P1.out.c 26
  have c5 := P1.out.c 27
  have d0 := P1.out.c 28
  have d1 := P1.out.c 29
  have d2 := P1.out.c 30
  have d3 := P1.out.c 31
  have d4 := P1.out.c 32
  have d5 := P1.out.c 33
  have z1 := P1.out.at_.lt
  simp at c0 c1 c2 c3 c4 c5 d0 d1 d2 d3 d4 d5
  clear hb1 HP HR HA k0 k1 k2 k3 k4 k5 z0
  rcases matA_cases hm with ⟨m', rfl, rfl⟩ | ⟨k, rfl, rfl⟩
  · clear hm
    go_wp2_with fail
    go_region
    go_wp2_with fail
    go_ret
    exact ⟨rfl, ((P1.out.tl m' m').alloc _).drew, (((KeepBut.of B1.out).setCells (o := 22) (vs := [.int .i64 m'.a, .int .i64 m'.b, .int .i64 m'.c, .int .i64 m'.d, .int .i64 m'.e, .int .i64 m'.f, .int .i64 m'.a, .int .i64 m'.b, .int .i64 m'.c, .int .i64 m'.d, .int .i64 m'.e, .int .i64 m'.f])).trans (.of ((Below.refl _ _).alloc (Nat.le_refl _) _))).drew⟩
  · clear hm
    go_wp2_with fail
    go_region
    go_wp2_with fail
    go_ret
    exact ⟨rfl, ((P1.out.tl zero6 zero6).alloc _).drew.keep⟩
set_option maxHeartbeats 2000000 in
theorem nextLine_keeps (K : Pk) (p : PS) (tS tG : Value) (A : List V) (a : Option Addr) (c : Nat) (w : World) (hP : PAt K w p tS tG) (hA : A.length ≤ maxLen) :
    Calls Tryz.prog 49 #[.pointer (some ⟨K.P, 0, none⟩), .slice a A.length c] w fun e w' => TRes K w tS tG e w' (nextX p A) := by
  unfold maxLen at hA
  have HP := hid hP
  have c18 := hP.c 18
  simp at c18
  have zP := hP.at_.lt
  have HC := hid (lineAlong_keeps K p tS tG 0 (wrap64 (-p.now.lead)))
  clear hP
  by_cases h0 : A.length = 0
  · have this : nextX p A = lineX p 0 (wrap64 (-p.now.lead)) := by unfold nextX; rw [if_pos h0]
    rw [this, h0]
    clear this
    go_enter Tryz.func49, Tryz.ntmps49
    go_wp2_with (go_at_call 71; refine (HC.out _ HP.out).mono ?_; intro e w2 h; obtain ⟨v, rfl⟩ := h.ret)
    go_ret
    exact h
  · have this : nextX p A = .error 8 := by unfold nextX; rw [if_neg h0]
    rw [this]
    have h1 : (0 : Int) < A.length := by omega
    clear this
    go_enter Tryz.func49, Tryz.ntmps49
    go_wp2_with fail
    go_ret
    exact ⟨rfl, HP.out.keep⟩

section
variable (sg : FnC → ByteArray → Ex (List Sp))
def prtX (p : PS) (v : V) : Ex PS := if v.k = 3 then showX sg p v.s else if v.k = 2 then bckX p (wrap64 (Int.tdiv v.n 1000)) else .error 8
def prtsX : PS → List V → Ex PS
  | p, [] => .ok p
  | p, v :: l => (prtX sg p v).bind fun p => prtsX p l
def strX (p : PS) (A : List V) : Ex PS := (onlyX A 3).bind fun v => showX sg p v.s
def nxtX (p : PS) (A : List V) : Ex PS := (onlyX A 3).bind fun v => (nextX p []).bind fun p => showX sg p v.s
def lstX (p : PS) (A : List V) : Ex PS := (onlyX A 5).bind fun v => prtsX sg p v.l
end
set_option maxHeartbeats 4000000 in
theorem showPart_says (K : Pk) (sg : FnC → ByteArray → Ex (List Sp)) (p : PS) (tS tG : Value) (v : V) (tL tF : Value) (w : World) (hP : PAt K w p tS tG) (hs : v.s.size ≤ 1000) (ho : p.out.length ≤ 1000) (hf : p.now.has = true → SigOk K sg p.now.x) (hL : ∃ a n c, tL = .slice a n c) (hF : ∃ a n c, tF = .slice a n c) :
    Calls Tryz.prog 74 #[.pointer (some ⟨K.P, 0, none⟩), .agg #[.int .i64 v.k, .int .i64 v.n, .string v.s, tL, tF]] w fun e w' => PRes K e w' (prtX sg p v) := by
  have HP := hid hP
  have zP := hP.at_.lt
  obtain ⟨a1, n1, c1, rfl⟩ := hL
  obtain ⟨a2, n2, c2, rfl⟩ := hF
  have C := hid (fun W (h : PAt K W p tS tG) => show_says K sg p tS tG v.s W h hs ho hf)
  clear hP hs ho hf
  unfold prtX
  by_cases h3 : v.k = 3
  · rw [if_pos h3]
    have hk : (v.k == 3) = true := by simpa using h3
    clear h3
    go_enter Tryz.func74, Tryz.ntmps74
    go_wp2_with (go_at_call 73; refine (C.out _ (HP.out.alloc _)).mono ?_; intro e w3 h; obtain ⟨v, rfl⟩ := h.ret)
    go_ret
    exact h.pres
  · rw [if_neg h3]
    have hk : (v.k == 3) = false := by simpa using h3
    clear h3
    by_cases h2 : v.k = 2
    · rw [if_pos h2]
      have hk2 : (v.k == 2) = true := by simpa using h2
      clear h2
      go_enter Tryz.func74, Tryz.ntmps74
      go_wp2_with (go_at_call 89; refine (back_says K p tS tG _ _ (HP.out.alloc _)).mono ?_; intro e w3 h; obtain ⟨v, rfl⟩ := h.ret)
      go_ret
      exact h
    · rw [if_neg h2]
      have hk2 : (v.k == 2) = false := by simpa using h2
      clear h2
      go_enter Tryz.func74, Tryz.ntmps74
      go_wp2_with fail
      go_ret
      exact PRes.err rfl (HP.out.alloc _).keep
theorem bindX {α β : Type} {x : Ex α} {f : α → Ex β} {b : β} (h : x.bind f = .ok b) : ∃ a, x = .ok a ∧ f a = .ok b := by
  cases x with
  | error k => cases h
  | ok a => exact ⟨a, rfl, h⟩
/-- What moving leaves as it is. -/
theorem next_same {p q : PS} (h : nextX p [] = .ok q) : q.now.has = p.now.has ∧ q.now.x = p.now.x ∧ q.out = p.out := by
  unfold nextX at h
  rw [if_pos (by rfl)] at h
  obtain ⟨m, _, h⟩ := bindX (by unfold lineX at h; exact h)
  injection h with h
  rw [← h]; exact ⟨rfl, rfl, rfl⟩
theorem back_same {p q : PS} {n : Int} (h : bckX p n = .ok q) : q.now = p.now ∧ q.out = p.out := by
  unfold bckX at h
  obtain ⟨_, _, h⟩ := bindX h
  obtain ⟨_, _, h⟩ := bindX h
  obtain ⟨_, _, h⟩ := bindX (by unfold textX at h; exact h)
  injection h with h
  rw [← h]; exact ⟨rfl, rfl⟩
theorem sign_same {p q : PS} {g : Sp} (h : signX p g = .ok q) : q.now = p.now ∧ q.inn = p.inn ∧ q.saved = p.saved ∧ q.l = p.l := by
  unfold signX at h
  split at h
  · cases h
  · obtain ⟨_, _, h⟩ := bindX h
    obtain ⟨_, _, h⟩ := bindX h
    obtain ⟨_, _, h⟩ := bindX h
    obtain ⟨_, _, h⟩ := bindX h
    injection h with h
    rw [← h]; exact ⟨rfl, rfl, rfl, rfl⟩
theorem signs_same : ∀ (l : List Sp) {p q : PS}, signsX p l = .ok q → q.now = p.now ∧ q.inn = p.inn ∧ q.saved = p.saved ∧ q.l = p.l
  | [], p, q, h => by injection h with h; rw [← h]; exact ⟨rfl, rfl, rfl, rfl⟩
  | g :: l, p, q, h => by
    unfold signsX at h
    obtain ⟨r, h1, h2⟩ := bindX h
    have a := sign_same h1
    have b := signs_same l h2
    exact ⟨b.1.trans a.1, b.2.1.trans a.2.1, b.2.2.1.trans a.2.2.1, b.2.2.2.trans a.2.2.2⟩
theorem show_same {sg : FnC → ByteArray → Ex (List Sp)} {p q : PS} {s : ByteArray} (h : showX sg p s = .ok q) : q.now = p.now ∧ q.inn = p.inn ∧ q.saved = p.saved ∧ q.l = p.l := by
  unfold showX at h
  split at h
  · obtain ⟨l, _, h⟩ := bindX h
    exact signs_same l h
  · cases h
theorem show_out {sg : FnC → ByteArray → Ex (List Sp)} {p q : PS} {s : ByteArray} (ho : p.out.length ≤ 1000) (h : showX sg p s = .ok q) : q.out.length ≤ 1000 := by
  unfold showX at h
  split at h
  · obtain ⟨l, _, h⟩ := bindX h
    exact signsX_out l ho h
  · cases h
theorem prt_same {sg : FnC → ByteArray → Ex (List Sp)} {p q : PS} {v : V} (ho : p.out.length ≤ 1000) (h : prtX sg p v = .ok q) : q.now = p.now ∧ q.out.length ≤ 1000 := by
  unfold prtX at h
  split at h
  · exact ⟨(show_same h).1, show_out ho h⟩
  · split at h
    · have := back_same h
      exact ⟨this.1, by rw [this.2]; exact ho⟩
    · cases h
theorem OnlyA.inv {d : Nat} {w : World} {e : Ending} {r : Ex V} (h : OnlyA d w e r) : (∃ k, r = .error k ∧ e = .returned (.tuple #[.agg #[.int .i64 0, .int .i64 0, .string ⟨#[]⟩, .slice none 0 0, .slice none 0 0], .iface 68 (.int .i64 k)])) ∨ ∃ v al af cl cf, r = .ok v ∧ e = .returned (.tuple #[.agg #[.int .i64 v.k, .int .i64 v.n, .string v.s, .slice al v.l.length cl, .slice af v.f.length cf], .nilIface]) ∧ v.l.length ≤ maxLen ∧ ∀ i x, v.l[i]? = some x → ∃ b off c, al = some ⟨b, off, none⟩ ∧ b < w.heap.size ∧ CellsAt w b (off + i * 5) c ∧ ∃ d', RepN d' w x c := by
  cases r with
  | error k => exact .inl ⟨k, rfl, h⟩
  | ok v =>
    obtain ⟨cs, he, hr⟩ := h
    obtain ⟨e', rfl⟩ := hr.inv
    obtain ⟨al, af, cl, cf, rfl, hs, hl, _⟩ := hr
    exact .inr ⟨v, al, af, cl, cf, rfl, he, hs.2.1, fun i x hx => by
      obtain ⟨b, off, c, q1, q2, q3, q4⟩ := hl i x hx
      exact ⟨b, off, c, q1, q2, q3, _, q4⟩⟩
def okA (A : List V) : Prop := ∀ v ∈ A, v.s.size ≤ 1000 ∧ ∀ u ∈ v.l, u.s.size ≤ 1000
theorem only_mem {A : List V} {k : Int} {v : V} (h : onlyX A k = .ok v) : v ∈ A := by
  unfold onlyX at h
  split at h
  · split at h
    · injection h with h; simp [h]
    · cases h
  · cases h
set_option maxHeartbeats 4000000 in
theorem showString_says (K : Pk) (sg : FnC → ByteArray → Ex (List Sp)) (p : PS) (tS tG : Value) (d : Nat) (A : List V) (t : Value) (w : World) (hP : PAt K w p tS tG) (hA : ArgsAt d K.w0 t A) (hk : okA A) (ho : p.out.length ≤ 1000) (hf : p.now.has = true → SigOk K sg p.now.x) :
    Calls Tryz.prog 50 #[.pointer (some ⟨K.P, 0, none⟩), t] w fun e w' => PRes K e w' (strX sg p A) := by
  have C0 := hid (only_at d A t 3 K.w0 w hA hP.keep)
  obtain ⟨a, c, rfl, _⟩ := id hA
  have HP := hid hP
  have zP := hP.at_.lt
  have C := hid (fun s W (hs : s.size ≤ 1000) (h : PAt K W p tS tG) => show_says K sg p tS tG s W h hs ho hf)
  have HK := hid hk
  obtain ⟨r, hr⟩ : ∃ r, onlyX A 3 = r := ⟨_, rfl⟩
  have HR := hid hr
  have hx : strX sg p A = r.bind fun v => showX sg p v.s := by unfold strX; rw [hr]
  rw [hx]
  clear hP ho hf hA hk hr hx
  go_enter Tryz.func50, Tryz.ntmps50
  go_wp2_with (go_at_call 72; fail)
  go_at_call 72
  refine C0.out.mono ?_
  rintro e w1 ⟨hm, hb⟩
  rw [HR.out] at hm
  have P1 := hid (HP.out.later hb)
  have z1 := P1.out.at_.lt
  rcases hm.inv with ⟨k, rfl, rfl⟩ | ⟨v, al, af, cl, cf, rfl, rfl, _⟩
  · clear hm hb
    go_wp2_with fail
    go_ret
    exact PRes.err rfl (P1.out.alloc _).keep
  · have hs := (HK.out v (only_mem HR.out)).1
    clear hm hb
    go_wp2_with (go_at_call 73; refine (C.out _ _ hs (P1.out.alloc _)).mono ?_; intro e w3 h; obtain ⟨v, rfl⟩ := h.ret)
    go_ret
    exact h.pres
set_option maxHeartbeats 4000000 in
theorem showNext_says (K : Pk) (sg : FnC → ByteArray → Ex (List Sp)) (p : PS) (tS tG : Value) (d : Nat) (A : List V) (t : Value) (w : World) (hP : PAt K w p tS tG) (hA : ArgsAt d K.w0 t A) (hk : okA A) (ho : p.out.length ≤ 1000) (hf : p.now.has = true → SigOk K sg p.now.x) :
    Calls Tryz.prog 51 #[.pointer (some ⟨K.P, 0, none⟩), t] w fun e w' => PRes K e w' (nxtX sg p A) := by
  have C0 := hid (only_at d A t 3 K.w0 w hA hP.keep)
  obtain ⟨a, c, rfl, _⟩ := id hA
  have HP := hid hP
  have zP := hP.at_.lt
  have C := hid (fun (q : PS) (hq : q.now.has = p.now.has ∧ q.now.x = p.now.x ∧ q.out = p.out) uS uG s W (hs : s.size ≤ 1000) (h : PAt K W q uS uG) => show_says K sg q uS uG s W h hs (by rw [hq.2.2]; exact ho) (fun e => by rw [hq.2.1]; exact hf (hq.1 ▸ e)))
  have HK := hid hk
  obtain ⟨r, hr⟩ : ∃ r, onlyX A 3 = r := ⟨_, rfl⟩
  have HR := hid hr
  have hx : nxtX sg p A = r.bind fun v => (nextX p []).bind fun p => showX sg p v.s := by unfold nxtX; rw [hr]
  rw [hx]
  clear hP ho hf hA hk hr hx
  go_enter Tryz.func51, Tryz.ntmps51
  go_wp2_with (go_at_call 72; fail)
  go_at_call 72
  refine C0.out.mono ?_
  rintro e w1 ⟨hm, hb⟩
  rw [HR.out] at hm
  have P1 := hid (HP.out.later hb)
  have z1 := P1.out.at_.lt
  rcases hm.inv with ⟨k, rfl, rfl⟩ | ⟨v, al, af, cl, cf, rfl, rfl, _⟩
  · clear hm hb
    go_wp2_with fail
    go_ret
    exact PRes.err rfl (P1.out.alloc _).keep
  · have hs := (HK.out v (only_mem HR.out)).1
    clear hm hb
    have HV := hid (At.new w1 #[.int .i64 v.k, .int .i64 v.n, .string v.s, .slice al v.l.length cl, .slice af v.f.length cf] 38 rfl)
    have P2 := hid (P1.out.alloc (.cells #[.int .i64 v.k, .int .i64 v.n, .string v.s, .slice al v.l.length cl, .slice af v.f.length cf] 38))
    go_wp2_with (go_at_call 49; fail)
    go_at_call 49
    refine (nextLine_keeps K p tS tG [] none 0 _ P2.out (Nat.zero_le _)).mono ?_
    intro e w2 hm
    obtain ⟨r, hr⟩ : ∃ r, nextX p [] = r := ⟨_, rfl⟩
    have HN := hid hr
    rw [hr] at hm
    clear hr
    cases r with
    | error k =>
      have HK := hid hm.2
      have he : e = .returned (.iface 68 (.int .i64 k)) := hm.1
      clear hm
      subst he
      go_wp2_with fail
      go_ret
      have hx : (Except.ok v).bind (fun v => (nextX p []).bind fun p => showX sg p v.s) = (.error k : Ex PS) := by show (nextX p []).bind _ = _; rw [HN.out]; rfl
      rw [hx]
      exact PRes.err rfl HK.out
    | ok q =>
      have he : e = .returned .nilIface := hm.1
      have P3 := hid hm.2.1
      have z3 := P3.out.at_.lt
      have V3 := hid (hm.2.2.at HV.out (by have := z1; omega))
      have v2 := V3.out.cell 2
      simp at v2
      have hq := next_same HN.out
      clear hm
      subst he
      go_wp2_with (go_at_call 73; refine (C.out q hq _ _ _ _ hs P3.out).mono ?_; intro e w4 h; obtain ⟨v', rfl⟩ := h.ret)
      go_ret
      have hx : (Except.ok v).bind (fun v => (nextX p []).bind fun p => showX sg p v.s) = (showX sg q v.s : Ex PS) := by show (nextX p []).bind _ = _; rw [HN.out]; rfl
      rw [hx]
      exact h.pres
theorem prts_take {sg : FnC → ByteArray → Ex (List Sp)} {p : PS} : ∀ (l : List V) (j : Nat) {p' : PS} {g : V}, prtsX sg p (l.take j) = .ok p' → l[j]? = some g → prtsX sg p (l.take (j + 1)) = prtX sg p' g := by
  intro l
  induction l generalizing p with
  | nil => intro j p' g _ h; simp at h
  | cons a l ih =>
    intro j p' g h1 h2
    cases j with
    | zero =>
      simp [prtsX] at h1 h2
      subst h1; subst h2
      simp only [Nat.zero_add, List.take_succ_cons, List.take_zero, prtsX]
      cases prtX sg p a <;> rfl
    | succ j =>
      simp only [List.take_succ_cons, prtsX] at h1 ⊢
      cases hs : prtX sg p a with
      | error k => rw [hs] at h1; cases h1
      | ok q =>
        rw [hs] at h1
        exact ih j h1 (by simpa using h2)
theorem prts_err {sg : FnC → ByteArray → Ex (List Sp)} {p : PS} : ∀ (l : List V) (j : Nat) {k : Int}, prtsX sg p (l.take j) = .error k → prtsX sg p l = .error k := by
  intro l
  induction l generalizing p with
  | nil => intro j k h; simpa using h
  | cons a l ih =>
    intro j k h
    cases j with
    | zero => simp [prtsX] at h
    | succ j =>
      simp only [List.take_succ_cons, prtsX] at h ⊢
      cases hs : prtX sg p a with
      | error k => rw [hs] at h; exact h
      | ok q => rw [hs] at h; exact ih j h
end Go.Proofs.YtobpidmlgldnmaaGreatDoor

/-
  A painter: a list is shown.
-/
namespace Go.Proofs.YtobpidmlgldnmaaGreatDoor
open Go.RowKit
set_option maxRecDepth 100000

set_option maxHeartbeats 4000000 in
theorem showList_says (K : Pk) (sg : FnC → ByteArray → Ex (List Sp)) (p : PS) (tS tG : Value) (d : Nat) (A : List V) (t : Value) (w : World) (hP : PAt K w p tS tG) (hA : ArgsAt d K.w0 t A) (hk : okA A) (ho : p.out.length ≤ 1000) (hf : p.now.has = true → SigOk K sg p.now.x) :
    Calls Tryz.prog 52 #[.pointer (some ⟨K.P, 0, none⟩), t] w fun e w' => PRes K e w' (lstX sg p A) := by
  have C0 := hid (only_at d A t 5 K.w0 w hA hP.keep)
  obtain ⟨a, c, rfl, _⟩ := id hA
  have HP := hid hP
  have zP := hP.at_.lt
  have HO := hid ho
  have HF := hid hf
  have HK := hid hk
  obtain ⟨r, hr⟩ : ∃ r, onlyX A 5 = r := ⟨_, rfl⟩
  have HR := hid hr
  have hx : lstX sg p A = r.bind fun v => prtsX sg p v.l := by unfold lstX; rw [hr]
  rw [hx]
  clear hP ho hf hA hk hr hx
  go_enter Tryz.func52, Tryz.ntmps52
  go_wp2_with (go_at_call 72; fail)
  go_at_call 72
  refine C0.out.mono ?_
  rintro e w1 ⟨hm, hb⟩
  rw [HR.out] at hm
  have P1 := hid (HP.out.later hb)
  have z1 := P1.out.at_.lt
  rcases hm.inv with ⟨k, rfl, rfl⟩ | ⟨v, al, af, cl, cf, rfl, rfl, hl, hx⟩
  · clear hm hb
    go_wp2_with fail
    go_ret
    exact PRes.err rfl (P1.out.alloc _).keep
  · have HS := hid (HK.out v (only_mem HR.out)).2
    have HL := hid hl
    have HX := hid hx
    clear hm hb hl hx
    have P2 := hid (P1.out.alloc (.cells #[.int .i64 v.k, .int .i64 v.n, .string v.s, .slice al v.l.length cl, .slice af v.f.length cf] 38))
    go_wp2_with fail
    go_loopw [21] (fun i wr => ∃ (j : Nat) (q : PS) (uS uG : Value), i = .int .i64 j ∧ j ≤ v.l.length ∧ prtsX sg p (v.l.take j) = .ok q ∧ q.now = p.now ∧ q.out.length ≤ 1000 ∧ PAt K wr q uS uG) (fun i _ => v.l.length - (intOf i).toNat)
    case atStart => exact ⟨0, p, tS, tG, rfl, Nat.zero_le _, rfl, rfl, HO.out, P2.out⟩
    case round =>
      obtain ⟨j, q, uS, uG, rfl, hj, hq, hqn, hqo, hPr⟩ := hrel
      have HQ := hid (And.intro hq (And.intro hqn (And.intro hqo hPr)))
      have zr := hPr.at_.lt
      clear hq hqn hqo hPr
      have hn := HL.out
      unfold maxLen at hn
      by_cases hlt : j < v.l.length
      · have hlt' : (j : Int) < v.l.length := by omega
        obtain ⟨x, hx⟩ : ∃ x, v.l[j]? = some x := ⟨v.l[j], by simp [hlt]⟩
        have HG := hid hx
        obtain ⟨b, off, c, rfl, hb, hc, d', hr⟩ := HX.out j x hx
        obtain ⟨e', rfl⟩ := hr.inv
        obtain ⟨al', af', cl', cf', rfl, _⟩ := hr
        have hc2 := hc.later hb HQ.out.2.2.2.keep
        have hb2 := Nat.lt_of_lt_of_le hb HQ.out.2.2.2.keep.size
        have m0 := hc2 0 _ rfl
        have m1 := hc2 1 _ rfl
        have m2 := hc2 2 _ rfl
        have m3 := hc2 3 _ rfl
        have m4 := hc2 4 _ rfl
        simp only [Nat.add_zero] at m0
        clear hx hc hb hc2
        go_wp2_with (go_at_call 74; fail)
        go_at_call 74
        refine (showPart_says K sg q uS uG x _ _ _ (HQ.out.2.2.2.alloc _) (HS.out x (List.mem_of_getElem? HG.out)) HQ.out.2.2.1 (fun e => by rw [HQ.out.2.1]; exact HF.out (by rw [← HQ.out.2.1]; exact e)) ⟨_, _, _, rfl⟩ ⟨_, _, _, rfl⟩).mono ?_
        intro e w2 hm
        obtain ⟨r, hr⟩ : ∃ r, prtX sg q x = r := ⟨_, rfl⟩
        rw [hr] at hm
        have HR2 := hid hr
        clear hr m0 m1 m2 m3 m4
        cases r with
        | error k =>
          have HK2 := hid hm.2
          have he : e = .returned (.iface 68 (.int .i64 k)) := hm.1
          clear hm
          subst he
          go_wp2_with fail
          go_ret
          have hz : (Except.ok v : Ex V).bind (fun v => prtsX sg p v.l) = .error k := prts_err v.l (j + 1) ((prts_take v.l j HQ.out.1 HG.out).trans HR2.out)
          rw [hz]
          exact PRes.err rfl HK2.out
        | ok q2 =>
          obtain ⟨he, tS2, tG2, hP2⟩ := hm
          have HK2 := hid hP2
          clear hP2
          subst he
          go_wp2_with fail
          go_roundw
          case rel => exact ⟨j + 1, q2, tS2, tG2, by go_num, by omega, (prts_take v.l j HQ.out.1 HG.out).trans HR2.out, (prt_same HQ.out.2.2.1 HR2.out).1.trans HQ.out.2.1, (prt_same HQ.out.2.2.1 HR2.out).2, HK2.out⟩
          case measure => simp [intOf]; omega
      · have hje : j = v.l.length := by omega
        subst hje
        go_wp2_with fail
        go_ret
        have hz : (Except.ok v : Ex V).bind (fun v => prtsX sg p v.l) = .ok q := by
          have := HQ.out.1
          rw [List.take_length] at this
          exact this
        rw [hz]
        exact ⟨rfl, uS, uG, HQ.out.2.2.2⟩
end Go.Proofs.YtobpidmlgldnmaaGreatDoor

/-
  A painter is made.
-/
namespace Go.Proofs.YtobpidmlgldnmaaGreatDoor
open Go.RowKit Go.WideMaps Go.Maps
set_option maxRecDepth 100000

def fnc0 : FnC := ⟨false, .map none, 0, .map none, .slice none 0 0⟩
def st0 : StP := ⟨unit6, fnc0, false, 0, 0, 0, 1000, 0, 0⟩
def ps0 : PS := ⟨st0, [], false, unit6, unit6, []⟩
theorem AtG {w w' : World} {b m : Nat} {t : TypeId} {cs : Array Value} (h : At w b t cs) (hg : w.grownBy w' (some m)) (hne : b ≠ m) : At w' b t cs := (hg.block b h.lt (fun e => hne (by injection e))).trans h
attribute [local go_sem ↓] putSt_eq
theorem storeSt {w : World} {b : Nat} {fb : Option Nat} (h : At w b 79 #[.map fb, .map none, .int .i64 0, .int .i64 0, .int .i64 0, .int .i64 0, .int .i64 0, .int .i64 0, .bool false, .map none, .int .i64 0, .map none, .slice none 0 0, .bool false, .int .i64 0, .int .i64 0, .int .i64 0, .int .i64 0, .int .i64 0, .int .i64 0, .slice none 0 0, .bool false, .int .i64 1000, .int .i64 0, .int .i64 0, .int .i64 1000, .int .i64 0, .int .i64 0, .int .i64 1000, .int .i64 0, .int .i64 0, .int .i64 1000, .int .i64 0, .int .i64 0, .slice none 0 0]) : (putSt (.pointer (some ⟨b, 2, none⟩)) (.agg #[.int .i64 1000, .int .i64 0, .int .i64 0, .int .i64 1000, .int .i64 0, .int .i64 0, .bool false, .map none, .int .i64 0, .map none, .slice none 0 0, .bool false, .int .i64 0, .int .i64 0, .int .i64 0, .int .i64 1000, .int .i64 0, .int .i64 0])).run Tryz.prog w = .ok () (w.setCells b 2 [.int .i64 1000, .int .i64 0, .int .i64 0, .int .i64 1000, .int .i64 0, .int .i64 0, .bool false, .map none, .int .i64 0, .map none, .slice none 0 0, .bool false, .int .i64 0, .int .i64 0, .int .i64 0, .int .i64 1000, .int .i64 0, .int .i64 0]) :=
  run_storeAt_mid (P := Tryz.prog) w b 2 76 _ (h.there (by simp)) (by kernel_rfl) (by simp [Value.oneCell'])
set_option maxHeartbeats 4000000 in
theorem newPainter_says (fb : Option Nat) (w : World) :
    Calls Tryz.prog 23 #[.map fb] w fun e w' => ∃ K : Pk, e = .returned (.pointer (some ⟨K.P, 0, none⟩)) ∧ K.w0 = w ∧ K.fm = .map fb ∧ PAt K w' ps0 (.slice none 0 0) (.slice none 0 0) ∧ SetAt K := by
  have HU := hid unit_any
  have hmm := @run_makeMap Tryz.prog
  go_enter Tryz.func23, Tryz.ntmps23
  go_wp2_with (go_at_call 34; fail)
  go_at_call 34
  refine (HU.out _).mono ?_
  rintro e w1 ⟨rfl, hb1⟩
  go_wp2_with (go_at_call 34; fail)
  go_at_call 34
  refine (HU.out _).mono ?_
  rintro e w2 ⟨rfl, hb2⟩
  have B2 : Below w.heap.size w w2 := chn0 hb1 hb2
  clear hb1 hb2
  go_wp2_with fail
  have A2 := ((At.new w2 #[.map fb, .map none, .int .i64 0, .int .i64 0, .int .i64 0, .int .i64 0, .int .i64 0, .int .i64 0, .bool false, .map none, .int .i64 0, .map none, .slice none 0 0, .bool false, .int .i64 0, .int .i64 0, .int .i64 0, .int .i64 0, .int .i64 0, .int .i64 0, .slice none 0 0, .bool false, .int .i64 1000, .int .i64 0, .int .i64 0, .int .i64 1000, .int .i64 0, .int .i64 0, .int .i64 1000, .int .i64 0, .int .i64 0, .int .i64 1000, .int .i64 0, .int .i64 0, .slice none 0 0] 79 rfl).alloc (.cells #[.pointer (some ⟨w2.heap.size, 0, none⟩)] 69)).drew
  have V2 := (At.new (w2.alloc (.cells #[.map fb, .map none, .int .i64 0, .int .i64 0, .int .i64 0, .int .i64 0, .int .i64 0, .int .i64 0, .bool false, .map none, .int .i64 0, .map none, .slice none 0 0, .bool false, .int .i64 0, .int .i64 0, .int .i64 0, .int .i64 0, .int .i64 0, .int .i64 0, .slice none 0 0, .bool false, .int .i64 1000, .int .i64 0, .int .i64 0, .int .i64 1000, .int .i64 0, .int .i64 0, .int .i64 1000, .int .i64 0, .int .i64 0, .int .i64 1000, .int .i64 0, .int .i64 0, .slice none 0 0] 79)) #[.pointer (some ⟨w2.heap.size, 0, none⟩)] 69 (b := w2.heap.size + 1) (by simp)).drew
  go_region_with (go_at_call 34; refine (HU.out _).mono ?_; rintro e w3 ⟨rfl, hb3⟩; (have A3 := A2.later hb3); (have V3 := V2.later hb3); (have hst := storeSt A3); (have f3 := A3.free); (have v3 := V3.cell 0); (have z3 := A3.lt); (have z4 := V3.lt); simp at v3)
  all_goals
    have A4 : At _ w2.heap.size 79 _ := A3.setCells (o := 2) (vs := [.int .i64 1000, .int .i64 0, .int .i64 0, .int .i64 1000, .int .i64 0, .int .i64 0, .bool false, .map none, .int .i64 0, .map none, .slice none 0 0, .bool false, .int .i64 0, .int .i64 0, .int .i64 0, .int .i64 1000, .int .i64 0, .int .i64 0])
    have V4 : At _ (w2.heap.size + 1) 69 _ := (KeepBut.setCells (P := w2.heap.size) (o := 2) (vs := [.int .i64 1000, .int .i64 0, .int .i64 0, .int .i64 1000, .int .i64 0, .int .i64 0, .bool false, .map none, .int .i64 0, .map none, .slice none 0 0, .bool false, .int .i64 0, .int .i64 0, .int .i64 0, .int .i64 1000, .int .i64 0, .int .i64 0]) (KeepBut.refl _ w3)).at V3 (by omega)
    have B4 : Below w.heap.size w _ := (KeepBut.setCells (P := w2.heap.size) (o := 2) (vs := [.int .i64 1000, .int .i64 0, .int .i64 0, .int .i64 1000, .int .i64 0, .int .i64 0, .bool false, .map none, .int .i64 0, .map none, .slice none 0 0, .bool false, .int .i64 0, .int .i64 0, .int .i64 0, .int .i64 1000, .int .i64 0, .int .i64 0]) (KeepBut.refl _ w3)).below (chn0 ((B2.alloc B2.size _).alloc (by have := B2.size; simp; omega) _).drew hb3) B2.size
    rw [putC_eq] at A4
    simp only [putL, List.set] at A4
    generalize w3.setCells w2.heap.size 2 [.int .i64 1000, .int .i64 0, .int .i64 0, .int .i64 1000, .int .i64 0, .int .i64 0, .bool false, .map none, .int .i64 0, .map none, .slice none 0 0, .bool false, .int .i64 0, .int .i64 0, .int .i64 0, .int .i64 1000, .int .i64 0, .int .i64 0] = w4 at A4 V4 B4 ⊢
    clear hst f3 v3 z3 z4 A3 V3 A2 V2 hb3
    have z4 := V4.lt
    have vv0 := V4.cell 0
    simp at vv0
    have o0 : (w4.alloc (.map #[] 0)).ownsMap Tryz.prog 9 heldR w4.heap.size 0 (.map []) := World.ownsMap_made _ _ _ _
    have b0 : Below w4.heap.size w4 (w4.alloc (.map #[] 0)) := (Below.refl _ _).alloc (Nat.le_refl _) _
    have P0 : At (w4.alloc (.map #[] 0)) w2.heap.size 79 _ := A4.alloc _
    have V0 : At (w4.alloc (.map #[] 0)) (w2.heap.size + 1) 69 _ := V4.alloc _
    obtain ⟨v1, h1, o1, g1⟩ := o0.update lawS Tryz.underlying72 (by unfold maxLen; decide) (key := .string ⟨#[84, 99]⟩) (keyOf_string_mk Tryz.underlying9 (by unfold maxLen; decide)) (val := .func (.func 35) #[] #[.pointer (some ⟨w2.heap.size + 1, 0, none⟩)]) rfl
    have P1 := AtG P0 g1 (by omega)
    have V1 := AtG V0 g1 (by omega)
    have b1 := b0.grown g1 b0.size (fun j hj => by cases hj; exact Nat.le_refl _)
    obtain ⟨v2, h2, o2, g2⟩ := o1.update lawS Tryz.underlying72 (by unfold maxLen; decide) (key := .string ⟨#[84, 119]⟩) (keyOf_string_mk Tryz.underlying9 (by unfold maxLen; decide)) (val := .func (.func 36) #[] #[.pointer (some ⟨w2.heap.size + 1, 0, none⟩)]) rfl
    have P2 := AtG P1 g2 (by omega)
    have V2 := AtG V1 g2 (by omega)
    have b2 := b1.grown g2 b1.size (fun j hj => by cases hj; exact Nat.le_refl _)
    obtain ⟨v3, h3, o3, g3⟩ := o2.update lawS Tryz.underlying72 (by unfold maxLen; decide) (key := .string ⟨#[84, 122]⟩) (keyOf_string_mk Tryz.underlying9 (by unfold maxLen; decide)) (val := .func (.func 37) #[] #[.pointer (some ⟨w2.heap.size + 1, 0, none⟩)]) rfl
    have P3 := AtG P2 g3 (by omega)
    have V3 := AtG V2 g3 (by omega)
    have b3 := b2.grown g3 b2.size (fun j hj => by cases hj; exact Nat.le_refl _)
    obtain ⟨v4, h4, o4, g4⟩ := o3.update lawS Tryz.underlying72 (by unfold maxLen; decide) (key := .string ⟨#[84, 76]⟩) (keyOf_string_mk Tryz.underlying9 (by unfold maxLen; decide)) (val := .func (.func 38) #[] #[.pointer (some ⟨w2.heap.size + 1, 0, none⟩)]) rfl
    have P4 := AtG P3 g4 (by omega)
    have V4 := AtG V3 g4 (by omega)
    have b4 := b3.grown g4 b3.size (fun j hj => by cases hj; exact Nat.le_refl _)
    obtain ⟨v5, h5, o5, g5⟩ := o4.update lawS Tryz.underlying72 (by unfold maxLen; decide) (key := .string ⟨#[84, 115]⟩) (keyOf_string_mk Tryz.underlying9 (by unfold maxLen; decide)) (val := .func (.func 39) #[] #[.pointer (some ⟨w2.heap.size + 1, 0, none⟩)]) rfl
    have P5 := AtG P4 g5 (by omega)
    have V5 := AtG V4 g5 (by omega)
    have b5 := b4.grown g5 b4.size (fun j hj => by cases hj; exact Nat.le_refl _)
    have c1 := P5.cell 1
    have f1 := P5.free 1
    have vz := P5.lt
    have c5 := V5.cell 0
    simp at c1 c5
    have HO := hid o5
    have HP5 := hid P5
    have HV5 := hid V5
    have HB5 := hid b5
    clear o0 o1 o2 o3 o4 o5 g1 g2 g3 g4 g5 b0 b1 b2 b3 b4 b5 P0 P1 P2 P3 P4 P5 V0 V1 V2 V3 V4 V5 A4
    go_wp2_with fail
    go_ret
    obtain ⟨wf, hwf⟩ : ∃ wf, v5.setCell ⟨w2.heap.size, 1, none⟩ (.map (some w4.heap.size)) = wf := ⟨_, rfl⟩
    have kb : KeepBut w2.heap.size v5 wf := by rw [← hwf]; exact (KeepBut.refl _ _).set 1 _
    have PF : At wf w2.heap.size 79 (ps0.cs (.map fb) (.map (some w4.heap.size)) (.slice none 0 0) (.slice none 0 0)) := by rw [← hwf]; exact heap_setCell_same v5 _ 1 _ _ _ HP5.out
    have VF := kb.at HV5.out (by omega)
    have z5 := HB5.out.size
    have z6 := kb.size
    have OF : wf.ownsMap Tryz.prog 9 heldR w4.heap.size 5 (setD (w2.heap.size + 1)) := HO.out.kept ⟨kb.os, kb.tape, kb.output, kb.size, fun i hi hn => kb.block i hi (fun e => hn (by rw [e]))⟩ (by simp; omega)
    have z7 := OF.lt
    rw [hwf]
    refine ⟨⟨w, w2.heap.size, wf.heap.size, .map fb, .map (some w4.heap.size), wf⟩, rfl, rfl, rfl, ⟨PF, B2.size, PF.lt, Nat.le_refl _, kb.below (chn0 B4 HB5.out) B2.size, World.ownsRow_nil _ _ _ _, World.ownsRow_nil _ _ _ _, fun g h => by simp [Value.ownBlock] at h, fun _ _ _ => rfl⟩, w4.heap.size, w2.heap.size + 1, rfl, z7, by show w4.heap.size ≠ w2.heap.size; omega, VF.lt, by show w2.heap.size + 1 ≠ w2.heap.size; omega, OF, VF⟩
end Go.Proofs.YtobpidmlgldnmaaGreatDoor
