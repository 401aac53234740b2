/-
  Filters of the program: digits to the base 16 are taken apart.
-/
import Derived.Test.YtemegkdfenjefaaQi
import Derived.Laws.OwnMore
namespace Go.Proofs.Ytemegkdfenjefaa
open Go.RowKit
set_option maxRecDepth 100000

theorem pHexN (c : UInt8) (n : Int) (h : n = (c.toNat : Int)) (w : World) :
    Calls Try.prog 33 #[.int .u8 n] w fun e w' => e = .returned (.int .i64 (hexV c)) ∧ w' = w := by
  subst h; exact pHex c w
theorem hexTk_step (s : ByteArray) (k : Nat) (p : Option Nat) (b : List UInt8) (h : k < s.size) : hexTk (s.data.toList.drop k) p b k =
    if s[k] == 62 then (0, b ++ pend p, k + 1)
    else if isBl s[k] then hexTk (s.data.toList.drop (k + 1)) p b (k + 1)
    else if hexV s[k] < 0 then (4, [], 0)
    else match p with
      | some x => hexTk (s.data.toList.drop (k + 1)) none (b ++ [UInt8.ofNat (16 * x + (hexV s[k]).toNat)]) (k + 1)
      | none => hexTk (s.data.toList.drop (k + 1)) (some (hexV s[k]).toNat) b (k + 1) := by
  rw [List.drop_eq_getElem_cons (by simpa using h)]; rfl
theorem hexTk_end (s : ByteArray) (p : Option Nat) (b : List UInt8) (k : Nat) : hexTk (s.data.toList.drop s.size) p b k = (5, [], 0) := by
  rw [List.drop_of_length_le (by simp)]; rfl
theorem set_last {α : Type} (xs : List α) (x y : α) : (xs ++ [x]).set xs.length y = xs ++ [y] := by simp
/-- The last byte of a row is written anew. -/
theorem own8_last {w : World} {B : Nat} {v : Value} {xs : List UInt8} {x : UInt8} (h : Own8 w B v (xs ++ [x])) :
    ∃ g c, v = .slice (some ⟨g, 0, none⟩) (xs.length + 1) c ∧ B ≤ g ∧ g < w.heap.size ∧ w.cell? ⟨g, xs.length, none⟩ = some (.int .u8 (x.toNat : Int)) ∧ w.frozen? ⟨g, xs.length, none⟩ = false ∧ ∀ y : UInt8, Own8 (w.setCell ⟨g, xs.length, none⟩ (.int .u8 (y.toNat : Int))) B v (xs ++ [y]) := by
  have hl : (xs ++ [x]).length = xs.length + 1 := by simp
  unfold Own8 at h
  rw [hl] at h
  obtain ⟨g, c, rfl, _⟩ := bytes_of_own (d := xs ++ [x]) h (by omega)
  have hlt := World.ownsRow.lt h g rfl
  refine ⟨g, c, rfl, hlt.1, hlt.2, ?_, World.ownsRow.frozenAt h _, fun y => ?_⟩
  · rw [World.ownsRow.cellAt h _ (by omega)]
    simp [byteV]
  · have q := (World.ownsRow.stored h xs.length (.int .u8 (y.toNat : Int))).1
    unfold Own8
    rw [List.map_append, List.map_cons, List.map_nil] at q
    rw [show xs.length = (xs.map byteV).length by simp, set_last] at q
    rw [show (xs ++ [y]).length = xs.length + 1 by simp, List.map_append]
    simpa [byteV] using q
theorem or_nib (x d : Nat) (hx : x < 16) (hd : d < 16) : bits .or .u8 ((UInt8.ofNat (16 * x)).toNat : Int) (d : Int) = ((UInt8.ofNat (16 * x + d)).toNat : Int) := by
  have h : ∀ a b : Fin 16, bits .or .u8 ((UInt8.ofNat (16 * a.1)).toNat : Int) (b.1 : Int) = ((UInt8.ofNat (16 * a.1 + b.1)).toNat : Int) := by decide +kernel
  exact h ⟨x, hx⟩ ⟨d, hd⟩
def pbool (p : Option Nat) : Bool := p.isSome
theorem pbool_none : pbool none = false := rfl
theorem pbool_some (x : Nat) : pbool (some x) = true := rfl
set_option maxHeartbeats 1000000 in
theorem pTakeHex (s : ByteArray) (w : World) (hs : s.size ≤ 100000) :
    Calls Try.prog 23 #[.string s] w fun e w' => ∃ v', e = .returned (.tuple #[v', errN (hexT s.data.toList).1]) ∧ Own8 w' w.heap.size v' (hexT s.data.toList).2 ∧ Below w.heap.size w w' := by
  unfold hexT
  generalize hR : hexTk s.data.toList none [] 0 = R
  have HR0 := hid hR
  clear hR
  go_enter Try.func23, Try.ntmps23
  go_wp2
  go_loopw [4, 5, 11] (fun bv hv i wr => ∃ (k : Nat) (p : Option Nat) (pre : List UInt8), i = .int .i64 k ∧ k ≤ s.size ∧ hv = .bool (pbool p) ∧ pre.length ≤ k ∧ hexTk (s.data.toList.drop k) p pre k = R ∧ (∀ x, p = some x → x < 16) ∧ Own8 wr w.heap.size bv (pre ++ pend p) ∧ Below w.heap.size w wr) (fun _ _ i _ => s.size - (intOf i).toNat)
  case atStart => exact ⟨0, none, [], rfl, Nat.zero_le _, rfl, Nat.le_refl _, HR0.out, (fun _ h => by cases h), Own8.nil _ _, Below.refl _ _⟩
  case round =>
    clear HR0
    obtain ⟨k, p, pre, rfl, hk, rfl, hpl, hR, hp, hown, hb⟩ := hrel
    have hbs := hb.size
    have HR := hid hR
    have HP := hid hp
    clear hR hp
    by_cases hlt : k < s.size
    · have HS := hid (hexTk_step s k p pre hlt)
      have hlt' : (k : Int) < s.size := by omega
      have hc := s[k].toNat_lt
      cases b0 : (s[k] == 62)
      case true =>
        have B0 := hid b0
        have q0 : (s[k].toNat : Int) = 62 := by rw [eq_of_beq b0]; rfl
        have HH := hid (fun w => pHex s[k] w)
        clear b0
        go_wp2_with (go_at_call 33; refine (pHexN s[k] _ (by omega) _).mono ?_; rintro e w1 ⟨rfl, rfl⟩)
        go_ret2
        have h1 := HR.out
        rw [HS.out, if_pos B0.out] at h1
        subst h1
        exact ⟨_, rfl, hown, hb⟩
      case false =>
        have B0 := hid b0
        have q0 : ((s[k].toNat : Int) == 62) = false := by rw [← b0]; exact beq_u8 s[k] 62
        clear b0
        cases b1 : isBl s[k]
        case true =>
          have B1 := hid b1
          go_wp2_with (first
            | (go_at_call 33; refine (pHexN s[k] _ rfl _).mono ?_; rintro e w1 ⟨rfl, rfl⟩)
            | (go_at_call 34; refine (pBlank s[k] _).mono ?_; rintro e w1 ⟨rfl, rfl⟩))
          go_roundw
          case rel =>
            refine ⟨k + 1, p, pre, by go_num, by omega, rfl, by omega, ?_, HP.out, hown, hb⟩
            have h1 := HR.out
            rw [HS.out, if_neg (by rw [B0.out]; simp), if_pos B1.out] at h1
            exact h1
          case measure => simp [intOf]; omega
        case false =>
          have B1 := hid b1
          by_cases hv : hexV s[k] < 0
          · go_wp2_with (first
              | (go_at_call 33; refine (pHexN s[k] _ rfl _).mono ?_; rintro e w1 ⟨rfl, rfl⟩)
              | (go_at_call 34; refine (pBlank s[k] _).mono ?_; rintro e w1 ⟨rfl, rfl⟩))
            go_ret2
            have h1 := HR.out
            rw [HS.out, if_neg (by rw [B0.out]; simp), if_neg (by rw [B1.out]; simp), if_pos hv] at h1
            subst h1
            exact ⟨_, rfl, Own8.nil _ _, hb⟩
          · have hvr := hexV_rng s[k]
            obtain ⟨d, hd⟩ : ∃ d : Nat, hexV s[k] = d := ⟨(hexV s[k]).toNat, by omega⟩
            have hd16 : d < 16 := by omega
            have HD := hid hd
            have HQ := hid (show (hexV s[k]).toNat = d by omega)
            clear hvr hv
            cases p with
            | none =>
              have q1 : ((UInt8.ofNat (16 * d)).toNat : Int) = (d : Int) * 16 := by simp only [UInt8.toNat_ofNat']; omega
              go_wp2_with (first
                | (go_at_call 33; refine (pHexN s[k] _ rfl _).mono ?_; rintro e w1 ⟨rfl, rfl⟩)
                | (go_at_call 34; refine (pBlank s[k] _).mono ?_; rintro e w1 ⟨rfl, rfl⟩)
                | (at_builtin; refine wpApp8 rfl (.tmp 19) (.tmp 23) rfl w.heap.size _ _ rfl hown _ [UInt8.ofNat (16 * d)] 1 1 rfl rfl ?cc (by simp [pend]; omega) hbs ?_))
              case cc => exact one8 (by omega)
              intro v2 w2 hown2 hk2
              go_wp2
              go_roundw
              case rel =>
                refine ⟨k + 1, some d, pre, by go_num, by omega, rfl, by omega, ?_, (fun x hx => by cases hx; exact hd16), by simpa [pend] using hown2, hb.trans hk2.below⟩
                have h1 := HR.out
                rw [HS.out, if_neg (by rw [B0.out]; simp), if_neg (by rw [B1.out]; simp), if_neg (by have := HD.out; omega), HQ.out] at h1
                exact h1
              case measure => simp [intOf]; omega
            | some x =>
              have hx := HP.out x rfl
              obtain ⟨g, c, rfl, hBg, hg, hcl, hfr, hst⟩ := own8_last (xs := pre) (x := UInt8.ofNat (16 * x)) hown
              have HST := hid (hst (UInt8.ofNat (16 * x + d)))
              have hor := or_nib x d hx hd16
              have e1 : ((UInt8.ofNat (16 * x)).toNat : Int) = 16 * (x : Int) := by simp only [UInt8.toNat_ofNat']; omega
              have e2 : ((UInt8.ofNat (16 * x + d)).toNat : Int) = 16 * (x : Int) + d := by simp only [UInt8.toNat_ofNat']; omega
              rw [e1] at hcl hor
              rw [e2] at hor HST
              clear hst hown e1 e2
              generalize hn : pre.length = n at *
              have HN := hid hn
              clear hn
              go_wp2_with (first
                | (go_at_call 33; refine (pHexN s[k] _ rfl _).mono ?_; rintro e w1 ⟨rfl, rfl⟩)
                | (go_at_call 34; refine (pBlank s[k] _).mono ?_; rintro e w1 ⟨rfl, rfl⟩))
              go_roundw
              case rel =>
                refine ⟨k + 1, none, pre ++ [UInt8.ofNat (16 * x + d)], by go_num, by omega, rfl, by have := HN.out; simp; omega, ?_, (fun x hx => by cases hx), by simpa [pend] using HST.out, hb.setCell (p := ⟨g, n, none⟩) hBg _⟩
                have h1 := HR.out
                rw [HS.out, if_neg (by rw [B0.out]; simp), if_neg (by rw [B1.out]; simp), if_neg (by have := HD.out; omega), HQ.out] at h1
                exact h1
              case measure => simp [intOf]; omega
    · have hke : k = s.size := by omega
      go_wp2
      go_ret2
      have h1 := HR.out
      rw [hke, hexTk_end] at h1
      subst h1
      exact ⟨_, rfl, Own8.nil _ _, hb⟩
end Go.Proofs.Ytemegkdfenjefaa
