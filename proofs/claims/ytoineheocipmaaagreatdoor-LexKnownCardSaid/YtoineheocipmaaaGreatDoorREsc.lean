/-
  The document's escape, walked.
-/
import Derived.Test.YtoineheocipmaaaGreatDoorRNum
import Derived.Test.YtoineheocipmaaaGreatDoorEscaped5
import Derived.Test.YtoineheocipmaaaGreatDoorRQuote
import Derived.Test.YtoineheocipmaaaGreatDoorKeyMath
import Derived.Deep.DeepCutAuto
import Derived.Deep.CutBlock
import Derived.Deep.QuietTactic
import Derived.BigQuiet
namespace Go.Proofs.YtoineheocipmaaaGreatDoor
open Go.RowKit
set_option linter.unusedVariables false
set_option linter.unusedSimpArgs false

def tabL : List UInt8 := [97, 98, 102, 110, 114, 116, 118, 92, 39, 34, 63]
def valL : List UInt8 := [7, 8, 12, 10, 13, 9, 11, 92, 39, 34, 63]
theorem tab_get (k : Nat) (h : k < 11) : (⟨#[97, 98, 102, 110, 114, 116, 118, 92, 39, 34, 63]⟩ : ByteArray)[k]'h = tabL.getD k 0 := by
  have : ∀ q : Fin 11, (⟨#[97, 98, 102, 110, 114, 116, 118, 92, 39, 34, 63]⟩ : ByteArray)[q.val]'q.isLt = tabL.getD q.val 0 := by decide
  exact this ⟨k, h⟩
theorem look_tab (k : Nat) (h : k < 11) : lookT escT (tabL.getD k 0).toNat = some ⟨(valL.getD k 0).toNat, 0, 0, 0, 0, false⟩ := by
  have h' : k = 0 ∨ k = 1 ∨ k = 2 ∨ k = 3 ∨ k = 4 ∨ k = 5 ∨ k = 6 ∨ k = 7 ∨ k = 8 ∨ k = 9 ∨ k = 10 := by omega
  rcases h' with rfl | rfl | rfl | rfl | rfl | rfl | rfl | rfl | rfl | rfl | rfl <;> rfl
def clsOk (c : UInt8) : Bool :=
  if tabL.contains c then true
  else if 48 ≤ c.toNat ∧ c.toNat ≤ 55 then (match lookT escT c.toNat with | some s => decide (s.base = 8) && decide (s.skip = 0) && decide (s.least = 1) && decide (s.most = 3) && !s.r | none => false)
  else if c = 120 ∨ c = 88 then (match lookT escT c.toNat with | some s => decide (s.base = 16) && decide (s.skip = 1) && decide (s.least = 1) && decide (s.most = 2) && !s.r | none => false)
  else if c = 117 then (match lookT escT c.toNat with | some s => decide (s.base = 16) && decide (s.skip = 1) && decide (s.least = 4) && decide (s.most = 4) && s.r | none => false)
  else if c = 85 then (match lookT escT c.toNat with | some s => decide (s.base = 16) && decide (s.skip = 1) && decide (s.least = 8) && decide (s.most = 8) && s.r | none => false)
  else (lookT escT c.toNat).isNone
theorem cls_ok (c : UInt8) : clsOk c = true := fin8 (p := clsOk) (by decide +kernel) c

/-- An escape's bytes, and how many bytes it has. -/
def ErP (w : World) (R : List UInt8 × Nat) (e : Ending) (w' : World) : Prop := ∃ v', e = .returned (.tuple #[v', .int .i64 (R.2 : Nat)]) ∧ Own w' w.heap.size v' R.1 ∧ Below w.heap.size w w'
theorem drop_cons (s : ByteArray) (p : Nat) (h : p < s.size) : s.data.toList.drop p = s[p] :: s.data.toList.drop (p + 1) := drop_at s p h

theorem esc_tab {c : UInt8} {r : List UInt8} (k : Nat) (h : k < 11) (hc : c = tabL.getD k 0) : escL (c :: r) = ([valL.getD k 0], 1) := by
  rw [escL, hc, look_tab k h]
  simp [escX]
theorem esc_dig {c : UInt8} {r : List UInt8} (hn : tabL.contains c = false) (h1 : 48 ≤ c.toNat) (h2 : c.toNat ≤ 55) : escL (c :: r) = if (nmF 8 3 0 (c :: r)).2 < 1 then ([], 0) else if (nmF 8 3 0 (c :: r)).1 ≤ 255 then ([UInt8.ofNat (nmF 8 3 0 (c :: r)).1.toNat], (nmF 8 3 0 (c :: r)).2) else ([], 0) := by
  have hk := cls_ok c
  unfold clsOk at hk
  rw [hn, if_neg (by simp), if_pos ⟨h1, h2⟩] at hk
  cases hl : lookT escT c.toNat with
  | none => rw [hl] at hk; simp at hk
  | some s =>
    rw [hl] at hk
    simp only [Bool.and_eq_true, decide_eq_true_eq, Bool.not_eq_true'] at hk
    obtain ⟨⟨⟨⟨e1, e2⟩, e3⟩, e4⟩, e5⟩ := hk
    rw [escL, hl]
    simp only [escX, e1, e2, e4, List.drop_zero]
    rw [if_neg (by omega)]
    unfold escN
    simp [e2, e3, e5]
theorem esc_hex {c : UInt8} {r : List UInt8} (hn : tabL.contains c = false) (h1 : c = 120 ∨ c = 88) : escL (c :: r) = if (nmF 16 2 0 r).2 < 1 then ([], 0) else if (nmF 16 2 0 r).1 ≤ 255 then ([UInt8.ofNat (nmF 16 2 0 r).1.toNat], 1 + (nmF 16 2 0 r).2) else ([], 0) := by
  have hk := cls_ok c
  unfold clsOk at hk
  rw [hn, if_neg (by simp), if_neg (by rcases h1 with rfl | rfl <;> decide), if_pos h1] at hk
  cases hl : lookT escT c.toNat with
  | none => rw [hl] at hk; simp at hk
  | some s =>
    rw [hl] at hk
    simp only [Bool.and_eq_true, decide_eq_true_eq, Bool.not_eq_true'] at hk
    obtain ⟨⟨⟨⟨e1, e2⟩, e3⟩, e4⟩, e5⟩ := hk
    rw [escL, hl]
    simp only [escX, e1, e2, e4, List.drop_succ_cons, List.drop_zero]
    rw [if_neg (by omega)]
    unfold escN
    simp [e2, e3, e5]
theorem esc_uni {c : UInt8} {r : List UInt8} {m : Nat} (hn : tabL.contains c = false) (h1 : (c = 117 ∧ m = 4) ∨ (c = 85 ∧ m = 8)) : escL (c :: r) = if (nmF 16 m 0 r).2 < m then ([], 0) else if rnB (nmF 16 m 0 r).1 then (Lib.encodeRune (nmF 16 m 0 r).1, 1 + (nmF 16 m 0 r).2) else ([], 0) := by
  have hk := cls_ok c
  unfold clsOk at hk
  rw [hn, if_neg (by simp), if_neg (by rcases h1 with ⟨rfl, _⟩ | ⟨rfl, _⟩ <;> decide), if_neg (by rcases h1 with ⟨rfl, _⟩ | ⟨rfl, _⟩ <;> decide)] at hk
  cases hl : lookT escT c.toNat with
  | none => rw [hl] at hk; rcases h1 with ⟨rfl, _⟩ | ⟨rfl, _⟩ <;> simp at hk
  | some s =>
    rw [hl] at hk
    have hk2 : s.base = 16 ∧ s.skip = 1 ∧ s.least = m ∧ s.most = m ∧ s.r = true := by
      rcases h1 with ⟨rfl, rfl⟩ | ⟨rfl, rfl⟩
      · rw [if_pos rfl] at hk
        simp only [Bool.and_eq_true, decide_eq_true_eq] at hk
        obtain ⟨⟨⟨⟨e1, e2⟩, e3⟩, e4⟩, e5⟩ := hk
        exact ⟨e1, e2, e3, e4, e5⟩
      · rw [if_neg (by decide), if_pos rfl] at hk
        simp only [Bool.and_eq_true, decide_eq_true_eq] at hk
        obtain ⟨⟨⟨⟨e1, e2⟩, e3⟩, e4⟩, e5⟩ := hk
        exact ⟨e1, e2, e3, e4, e5⟩
    obtain ⟨e1, e2, e3, e4, e5⟩ := hk2
    rw [escL, hl]
    simp only [escX, e1, e2, e4, List.drop_succ_cons, List.drop_zero]
    rw [if_neg (by omega)]
    unfold escN
    simp [e2, e3, e5]
theorem esc_no {c : UInt8} {r : List UInt8} (hn : tabL.contains c = false) (h1 : ¬ (48 ≤ c.toNat ∧ c.toNat ≤ 55)) (h2 : ¬ (c = 120 ∨ c = 88)) (h3 : ¬ c = 117) (h4 : ¬ c = 85) : escL (c :: r) = ([], 0) := by
  have hk := cls_ok c
  unfold clsOk at hk
  rw [hn, if_neg (by simp), if_neg h1, if_neg h2, if_neg h3, if_neg h4] at hk
  rw [escL]
  cases hl : lookT escT c.toNat with
  | none => rfl
  | some s => rw [hl] at hk; simp at hk

theorem nm_pos {base : Int} {m : Nat} {c : UInt8} {r : List UInt8} (h : dgV c.toNat < base) : 1 ≤ (nmF base (m + 1) 0 (c :: r)).2 := by
  rw [nmF, if_pos h]
  simp
theorem Own.one_ (W : World) (z : Int) (h0 : 0 ≤ z) (h1 : z < 256) (x : UInt8) (hx : UInt8.ofNat z.toNat = x) : Own (W.alloc (.cells #[.int .u8 z] 5)) W.heap.size (.slice (some ⟨W.heap.size, 0, none⟩) 1 1) [x] := by
  rw [← hx]; exact Own.one W z h0 h1
theorem Own.one2 (w : World) (o : Obj) (z : Int) (h0 : 0 ≤ z) (h1 : z < 256) (x : UInt8) (hx : UInt8.ofNat z.toNat = x) : Own ((w.alloc o).alloc (.cells #[.int .u8 z] 5)) w.heap.size (.slice (some ⟨w.heap.size + 1, 0, none⟩) 1 1) [x] := by
  have h := (Own.one_ (w.alloc o) z h0 h1 x hx).base_ (base' := w.heap.size) (by simp)
  rw [World.size_alloc] at h
  exact h
set_option maxRecDepth 100000 in
set_option maxHeartbeats 1000000 in
theorem escape_any (s : ByteArray) (p : Nat) (w : World) (hp : p < s.size) (hsz : s.size ≤ 1000000) : Calls Tryz.prog 158 #[.string s, .int .i64 p] w (ErP w (escL (s.data.toList.drop p))) := by
  have hp' : (p : Int) < (s.size : Int) := by omega
  have p0 : (0 : Int) ≤ (p : Int) := by omega
  have hdr := drop_cons s p hp
  obtain ⟨T, hT⟩ : ∃ T, escL (s.data.toList.drop p) = T := ⟨_, rfl⟩
  rw [hT]
  rw [hdr] at hT
  have hn8 := fun W => rnumber_any s p 8 3 W (by omega) (by omega) hsz (by omega)
  rw [hdr] at hn8
  have hn16 : ∀ (m : Nat) (W : World), m ≤ 8 → Calls Tryz.prog 203 #[.string s, .int .i64 ((p : Int) + 1), .int .i64 16, .int .i64 m] W fun e w' => e = .returned (.tuple #[.int .i64 (nmF 16 m 0 (s.data.toList.drop (p + 1))).1, .int .i64 ((nmF 16 m 0 (s.data.toList.drop (p + 1))).2 : Nat)]) ∧ W = w' :=
    fun m W hm => rnumber_any s (p + 1) 16 m W (by omega) hm hsz (by omega)
  obtain ⟨r, hr⟩ : ∃ r, s.data.toList.drop (p + 1) = r := ⟨_, rfl⟩
  rw [hr] at hT hn8
  simp only [hr] at hn16
  generalize hc : s[p] = c at *
  have hc8 := c.toNat_lt
  have HT := Lib.hid hT
  have HN8 := Lib.hid hn8
  have HN16 := Lib.hid hn16
  clear hT hn8 hn16 hdr hr
  go_enter Tryz.func158, Tryz.ntmps158
  go_upto_block 0 with fail
  go_cut [7] (fun v wx => tabL.contains c = false ∧ w = wx)
  case first =>
    go_wp2_with fail
    go_loop [7] (fun j => ∃ i : Nat, j = .int .i64 i ∧ i ≤ 11 ∧ ∀ k, k < i → c ≠ tabL.getD k 0) (fun j => 11 - (intOf j).toNat)
    case atStart => exact ⟨0, rfl, by omega, by intro k hk; omega⟩
    case round =>
      obtain ⟨i, rfl, hi, hno⟩ := hrel
      have HNO := Lib.hid hno
      clear hno
      by_cases hlt : i < 11
      · have hlt' : (i : Int) < 11 := by omega
        have hi0 : (0 : Int) ≤ (i : Int) := by omega
        have hg := tab_get i hlt
        have HT1 := Lib.hid (fun h => esc_tab (r := r) (c := c) i hlt h)
        obtain ⟨y, hy⟩ : ∃ y, tabL.getD i 0 = y := ⟨_, rfl⟩
        rw [hy] at hg
        have HY := Lib.hid hy
        have hy8 := y.toNat_lt
        clear hy
        by_cases hcy : c = y
        · have e1 : ((c.toNat : Int) == (y.toNat : Int)) = true := by simp [hcy]
          have HE := Lib.hid (HT1.out (by rw [HY.out]; exact hcy))
          have hv : ∀ W : World, (W.alloc (.cells #[.int .u8 7, .int .u8 8, .int .u8 12, .int .u8 10, .int .u8 13, .int .u8 9, .int .u8 11, .int .u8 92, .int .u8 39, .int .u8 34, .int .u8 63] 5)).cell? ⟨W.heap.size, i, none⟩ = some (.int .u8 ((valL.getD i 0).toNat : Int)) := by
            intro W
            rw [(Blk.new W 5 _).cell i]
            have h' : i = 0 ∨ i = 1 ∨ i = 2 ∨ i = 3 ∨ i = 4 ∨ i = 5 ∨ i = 6 ∨ i = 7 ∨ i = 8 ∨ i = 9 ∨ i = 10 := by omega
            rcases h' with rfl | rfl | rfl | rfl | rfl | rfl | rfl | rfl | rfl | rfl | rfl <;> rfl
          generalize valL.getD i 0 = x at *
          have hx8 := x.toNat_lt
          have hvw := hv w
          clear hv hcy
          go_wp2_with fail
          go_ret2
          rw [← HT.out, HE.out]
          exact ⟨_, rfl, Own.one2 w _ (x.toNat : Int) (by omega) (by omega) x (by simp), ((Below.refl w.heap.size w).alloc (Nat.le_refl _) _).alloc (by simp) _⟩
        · have e1 : ((c.toNat : Int) == (y.toNat : Int)) = false := by
            simp only [beq_eq_false_iff_ne, ne_eq]
            intro h
            exact hcy (UInt8.toNat_inj.1 (by omega))
          have HN := Lib.hid (show ∀ k, k < i + 1 → c ≠ tabL.getD k 0 by
            intro k hk
            by_cases hki : k = i
            · subst hki; rw [HY.out]; exact hcy
            · exact HNO.out k (by omega))
          clear hcy
          go_wp2_with fail
          go_round
          case rel => exact ⟨i + 1, by go_num, by omega, HN.out⟩
          case measure => simp [intOf]; omega
      · have hlt' : ¬ (i : Int) < 11 := by omega
        have HN := Lib.hid (show tabL.contains c = false by
          have h := HNO.out
          have h0 := h 0 (by omega)
          have h1 := h 1 (by omega)
          have h2 := h 2 (by omega)
          have h3 := h 3 (by omega)
          have h4 := h 4 (by omega)
          have h5 := h 5 (by omega)
          have h6 := h 6 (by omega)
          have h7 := h 7 (by omega)
          have h8 := h 8 (by omega)
          have h9 := h 9 (by omega)
          have h10 := h 10 (by omega)
          simp [tabL] at *
          exact ⟨h0, h1, h2, h3, h4, h5, h6, h7, h8, h9, h10⟩)
        go_wp2_with fail
        go_meet
        exact ⟨HN.out, rfl⟩
  case rest =>
    obtain ⟨hn, rfl⟩ := hcut
    have HN := Lib.hid hn
    clear hn
    by_cases q1 : 48 ≤ c.toNat ∧ c.toNat ≤ 55
    · obtain ⟨q1, q2⟩ := q1
      have q1' : (48 : Int) ≤ (c.toNat : Int) := by omega
      have q2' : (c.toNat : Int) ≤ 55 := by omega
      have hE := esc_dig (r := r) HN.out q1 q2
      have hpos : 1 ≤ (nmF 8 3 0 (c :: r)).2 := nm_pos (by unfold dgV; rw [if_pos (by omega)]; omega)
      obtain ⟨N, hN⟩ : ∃ N, nmF 8 3 0 (c :: r) = N := ⟨_, rfl⟩
      have hfi := nm_fine (N := N.1) (C := N.2) (.inl rfl) (by omega) hN
      rw [hN] at hE hpos
      have hn8 := HN8.out
      rw [hN] at hn8
      obtain ⟨N, C⟩ := N
      simp only at hE hpos hfi hn8
      obtain ⟨f1, f2, f3, f4⟩ := hfi
      rw [if_neg (by omega)] at hE
      have HE := Lib.hid hE
      have HN8 := Lib.hid hn8
      clear hE hN hn8 f4
      by_cases hq : N ≤ 255
      · have HE2 := HE.out
        rw [if_pos hq] at HE2
        have HE2 := Lib.hid HE2
        have hq' : ¬ 255 < N := by omega
        have hw : IntKind.u8.wrap N = N := IntWalk.u8_in _ (by omega)
        go_wp2_with fail
        refine (HN8.out _).mono ?_
        rintro e _ ⟨rfl, rfl⟩
        go_wp2_with fail
        go_ret2
        rw [← HT.out, HE2.out]
        exact ⟨_, rfl, Own.one_ _ _ (by omega) (by omega) _ rfl, (Below.refl _ _).alloc (Nat.le_refl _) _⟩
      · have HE2 := HE.out
        rw [if_neg hq] at HE2
        have HE2 := Lib.hid HE2
        have hq' : 255 < N := by omega
        go_wp2_with fail
        refine (HN8.out _).mono ?_
        rintro e _ ⟨rfl, rfl⟩
        go_wp2_with fail
        go_ret2
        rw [← HT.out, HE2.out]
        exact ⟨_, rfl, Own.nil _ _, Below.refl _ _⟩
    · have hq1 : ¬ (48 : Int) ≤ (c.toNat : Int) ∨ ((48 : Int) ≤ (c.toNat : Int) ∧ ¬ (c.toNat : Int) ≤ 55) := by omega
      go_upto_region 7 with fail
      go_cut [38] (fun v wx => v = .bool false ∧ w = wx)
      case first =>
        rcases hq1 with d | ⟨d, d'⟩
        all_goals
          go_wp2_with fail
          go_meet
          exact ⟨rfl, rfl⟩
      case rest =>
        obtain ⟨rfl, rfl⟩ := hcut
        by_cases q2 : c = 120 ∨ c = 88
        · have hE := esc_hex (r := r) HN.out q2
          obtain ⟨N, hN⟩ : ∃ N, nmF 16 2 0 r = N := ⟨_, rfl⟩
          have hfi := nm_fine (N := N.1) (C := N.2) (.inr rfl) (by omega) hN
          have hb2 := (nmF_bound 16 (by omega) (by omega) 2 0 0 r (by omega) (by decide))
          rw [hN] at hE hb2
          have hn16 := fun W => HN16.out 2 W (by omega)
          simp only [hN] at hn16
          obtain ⟨N, C⟩ := N
          simp only at hE hfi hn16 hb2
          obtain ⟨f1, f2, f3, f4⟩ := hfi
          have hN255 : N ≤ 255 := by
            have h1 := hb2.2.1
            have h2 := hb2.2.2.1
            have : (16 : Int) ^ (0 + C) ≤ 256 := by
              have h' : C = 0 ∨ C = 1 ∨ C = 2 := by omega
              rcases h' with rfl | rfl | rfl <;> decide
            omega
          have HE := Lib.hid hE
          have HN16 := Lib.hid hn16
          clear hE hN hn16 f4 hb2
          have q3 : ((c.toNat : Int) == 120) = true ∨ (((c.toNat : Int) == 120) = false ∧ ((c.toNat : Int) == 88) = true) := by
            rcases q2 with rfl | rfl
            · exact .inl rfl
            · exact .inr ⟨rfl, rfl⟩
          clear q2 q1 hq1
          go_upto_region 12 with fail
          go_cut [56] (fun v wx => v = .bool true ∧ w = wx)
          case first =>
            rcases q3 with d | ⟨d, d'⟩
            all_goals
              go_wp2_with fail
              go_meet
              exact ⟨rfl, rfl⟩
          case rest =>
            obtain ⟨rfl, rfl⟩ := hcut
            by_cases hC : C = 0
            · subst hC
              have HE2 := HE.out
              rw [if_pos (by omega)] at HE2
              have HE2 := Lib.hid HE2
              go_wp2_with fail
              refine (HN16.out _).mono ?_
              rintro e _ ⟨rfl, rfl⟩
              go_wp2_with fail
              go_ret2
              rw [← HT.out, HE2.out]
              exact ⟨_, rfl, Own.nil _ _, Below.refl _ _⟩
            · have HE2 := HE.out
              rw [if_neg (by omega), if_pos hN255] at HE2
              have HE2 := Lib.hid HE2
              have hC0 : ((C : Int) == 0) = false := by simp; omega
              have hw : IntKind.u8.wrap N = N := IntWalk.u8_in _ (by omega)
              clear hC
              go_wp2_with fail
              refine (HN16.out _).mono ?_
              rintro e _ ⟨rfl, rfl⟩
              go_wp2_with fail
              go_ret2
              rw [← HT.out, HE2.out]
              exact ⟨_, by first | rfl | (congr 3; simp), Own.one_ _ _ (by omega) (by omega) _ rfl, (Below.refl _ _).alloc (Nat.le_refl _) _⟩
        · have q3 : ((c.toNat : Int) == 120) = false ∧ ((c.toNat : Int) == 88) = false := by
            refine ⟨?_, ?_⟩
            · simp only [beq_eq_false_iff_ne, ne_eq]; intro h; exact q2 (.inl (UInt8.toNat_inj.1 (by show c.toNat = 120; omega)))
            · simp only [beq_eq_false_iff_ne, ne_eq]; intro h; exact q2 (.inr (UInt8.toNat_inj.1 (by show c.toNat = 88; omega)))
          obtain ⟨q3, q4⟩ := q3
          have HQ2 := Lib.hid q2
          have HQ1 := Lib.hid q1
          clear q2 q1 hq1
          go_upto_region 12 with fail
          go_cut [56] (fun v wx => v = .bool false ∧ w = wx)
          case first =>
            go_wp2_with fail
            go_meet
            exact ⟨rfl, rfl⟩
          case rest =>
            obtain ⟨rfl, rfl⟩ := hcut
            have hrr := fun N W => rrune_any (w := W) N (Bs.none_ W 0 0 none (c := 0) (by decide)) (by omega)
            have hru : ∀ N, ruR [] N = if rnB N then (0, Lib.encodeRune N) else (20, []) := by intro N; unfold ruR; simp
            simp only [hru] at hrr
            have HRR := Lib.hid hrr
            clear hrr hru
            obtain ⟨m, m1, hm⟩ : ∃ m m1 : Nat, ((c = 117 ∧ m1 = 4 ∧ m = 4) ∨ (c = 85 ∧ m1 = 0 ∧ m = 8) ∨ (c ≠ 117 ∧ c ≠ 85 ∧ m1 = 0 ∧ m = 0)) := by
              by_cases h1 : c = 117
              · exact ⟨4, 4, .inl ⟨h1, rfl, rfl⟩⟩
              · by_cases h2 : c = 85
                · exact ⟨8, 0, .inr (.inl ⟨h2, rfl, rfl⟩)⟩
                · exact ⟨0, 0, .inr (.inr ⟨h1, h2, rfl, rfl⟩)⟩
            have hm8 : m ≤ 8 := by omega
            obtain ⟨N, hN⟩ : ∃ N, nmF 16 m 0 r = N := ⟨_, rfl⟩
            have hfi := nm_fine (N := N.1) (C := N.2) (.inr rfl) hm8 hN
            have hE : T = if m = 0 then ([], 0) else if N.2 < m then ([], 0) else if rnB N.1 then (Lib.encodeRune N.1, 1 + N.2) else ([], 0) := by
              rw [← HT.out]
              by_cases h0 : m = 0
              · rw [if_pos h0]
                refine esc_no HN.out HQ1.out HQ2.out ?_ ?_
                · intro h; rcases hm with ⟨_, _, _⟩ | ⟨h2, _, _⟩ | ⟨h2, _, _⟩
                  · omega
                  · rw [h] at h2; cases h2
                  · exact h2 h
                · intro h; rcases hm with ⟨h2, _, _⟩ | ⟨_, _, _⟩ | ⟨_, h2, _⟩
                  · rw [h] at h2; cases h2
                  · omega
                  · exact h2 h
              · rw [if_neg h0, ← hN]
                exact esc_uni HN.out (by rcases hm with ⟨h, _, h'⟩ | ⟨h, _, h'⟩ | ⟨_, _, _, h'⟩; exact .inl ⟨h, h'⟩; exact .inr ⟨h, h'⟩; exact absurd h' h0)
            have hn16 := fun W => HN16.out m W hm8
            simp only [hN] at hn16
            obtain ⟨N, C⟩ := N
            simp only at hE hfi hn16
            obtain ⟨f1, f2, f3, f4⟩ := hfi
            have HE := Lib.hid hE
            have HM16 := Lib.hid hn16
            have hcs : (((c.toNat : Int) == 117) = true ∧ ((c.toNat : Int) == 85) = false ∧ m1 = 4 ∧ m = 4) ∨ (((c.toNat : Int) == 117) = false ∧ ((c.toNat : Int) == 85) = true ∧ m1 = 0 ∧ m = 8) ∨ (((c.toNat : Int) == 117) = false ∧ ((c.toNat : Int) == 85) = false ∧ m1 = 0 ∧ m = 0) := by
              rcases hm with ⟨rfl, h1, h2⟩ | ⟨rfl, h1, h2⟩ | ⟨h, h', h1, h2⟩
              · exact .inl ⟨rfl, rfl, h1, h2⟩
              · exact .inr (.inl ⟨rfl, rfl, h1, h2⟩)
              · refine .inr (.inr ⟨?_, ?_, h1, h2⟩)
                · simp only [beq_eq_false_iff_ne, ne_eq]; intro q; exact h (UInt8.toNat_inj.1 (by show c.toNat = 117; omega))
                · simp only [beq_eq_false_iff_ne, ne_eq]; intro q; exact h' (UInt8.toNat_inj.1 (by show c.toNat = 85; omega))
            have HCS := Lib.hid hcs
            clear hE hN hn16 f4 hm hcs
            go_upto_if 72 with fail
            go_cut [12] (fun v wx => v = .int .i64 (m1 : Int) ∧ w = wx)
            case first =>
              rcases HCS.out with ⟨d, d', rfl, rfl⟩ | ⟨d, d', rfl, rfl⟩ | ⟨d, d', rfl, rfl⟩
              all_goals
                go_wp2_with fail
                go_meet
                exact ⟨rfl, rfl⟩
            case rest =>
              obtain ⟨rfl, rfl⟩ := hcut
              go_upto_if 74 with fail
              go_cut [12] (fun v wx => v = .int .i64 (m : Int) ∧ w = wx)
              case first =>
                rcases HCS.out with ⟨d, d', rfl, rfl⟩ | ⟨d, d', rfl, rfl⟩ | ⟨d, d', rfl, rfl⟩
                all_goals
                  go_wp2_with fail
                  go_meet
                  exact ⟨rfl, rfl⟩
              case rest =>
                obtain ⟨rfl, rfl⟩ := hcut
                clear HCS
                go_wp2_with fail
                refine (HM16.out _).mono ?_
                rintro e _ ⟨rfl, rfl⟩
                go_wp2_with fail
                have hrr := HRR.out N
                clear HRR
                have hcase : (m = 0) ∨ (m ≠ 0 ∧ C < m) ∨ (m ≠ 0 ∧ ¬ C < m ∧ rnB N = false) ∨ (m ≠ 0 ∧ ¬ C < m ∧ rnB N = true) := by
                  cases rnB N <;> simp <;> omega
                rcases hcase with h | ⟨h, h1⟩ | ⟨h, h1, h2⟩ | ⟨h, h1, h2⟩
                · have hT := HE.out
                  rw [if_pos h] at hT
                  have HT2 := Lib.hid hT
                  generalize (if rnB N = true then ((0 : Nat), Lib.encodeRune N) else (20, [])) = RR at hrr
                  have HRR := Lib.hid hrr
                  have hb : ((m : Int) == 0) = true := by simp; omega
                  clear hT hrr h
                  refine (HRR.out _).mono ?_
                  rintro e w2 ⟨v2, rfl, ho2, hb2⟩
                  have HB2 := Lib.hid hb2
                  clear ho2 hb2
                  go_wp2_with fail
                  go_ret2
                  rw [HT2.out]
                  exact ⟨_, rfl, Own.nil _ _, HB2.out⟩
                · have hT := HE.out
                  rw [if_neg h, if_pos h1] at hT
                  have HT2 := Lib.hid hT
                  generalize (if rnB N = true then ((0 : Nat), Lib.encodeRune N) else (20, [])) = RR at hrr
                  have HRR := Lib.hid hrr
                  have hb : ((m : Int) == 0) = false := by simp; omega
                  have hb1 : (C : Int) < (m : Int) := by omega
                  clear hT hrr h h1
                  refine (HRR.out _).mono ?_
                  rintro e w2 ⟨v2, rfl, ho2, hb2⟩
                  have HB2 := Lib.hid hb2
                  clear ho2 hb2
                  go_wp2_with fail
                  go_ret2
                  rw [HT2.out]
                  exact ⟨_, rfl, Own.nil _ _, HB2.out⟩
                · have hT := HE.out
                  rw [if_neg h, if_neg h1, h2, if_neg (by simp)] at hT
                  rw [h2] at hrr
                  simp only [Bool.false_eq_true, if_false] at hrr
                  have HT2 := Lib.hid hT
                  have HRR := Lib.hid hrr
                  have hb : ((m : Int) == 0) = false := by simp; omega
                  have hb1 : ¬ (C : Int) < (m : Int) := by omega
                  clear hT hrr h h1 h2
                  refine (HRR.out _).mono ?_
                  rintro e w2 ⟨v2, rfl, ho2, hb2⟩
                  have HB2 := Lib.hid hb2
                  clear ho2 hb2
                  go_wp2_with fail
                  go_ret2
                  rw [HT2.out]
                  exact ⟨_, rfl, Own.nil _ _, HB2.out⟩
                · have hT := HE.out
                  rw [if_neg h, if_neg h1, h2, if_pos rfl] at hT
                  rw [h2] at hrr
                  simp only [if_true] at hrr
                  have HT2 := Lib.hid hT
                  have HRR := Lib.hid hrr
                  have hb : ((m : Int) == 0) = false := by simp; omega
                  have hb1 : ¬ (C : Int) < (m : Int) := by omega
                  clear hT hrr h h1 h2
                  refine (HRR.out _).mono ?_
                  rintro e w2 ⟨v2, rfl, ho2, hb2⟩
                  have HB2 := Lib.hid hb2
                  have HO2 := Lib.hid ho2
                  clear ho2 hb2
                  go_wp2_with fail
                  go_ret2
                  rw [HT2.out]
                  exact ⟨_, rfl, HO2.out, HB2.out⟩
end Go.Proofs.YtoineheocipmaaaGreatDoor
