/-
  The reader: since, take, fixed, eight, four, counted.
-/
import Derived.Test.YtlckppmggklinaaRead
namespace Go.Proofs.Ytlckppmggklinaa
open Go.RowKit
set_option linter.unusedVariables false

theorem Bs.sub {w : World} {lo hi n c f p : Nat} {b o : Nat} {l : List UInt8} (h : Bs w lo hi (some ⟨b, o, none⟩) n c l) (hf : f ≤ p) (hp : p ≤ n) : Bs w lo hi (some ⟨b, o + f, none⟩) (p - f) (p - f) ((l.drop f).take (p - f)) := by
  have hl := h.len
  have hcap := h.cap
  have hle := h.le
  refine ⟨by simp; omega, Nat.le_refl _, by omega, fun hn => ?_⟩
  obtain ⟨b', o', e, h1, h2, hc⟩ := h.at_ (by omega)
  injection e with e; injection e with e1 e2 _; subst e1; subst e2
  refine ⟨b, o + f, rfl, h1, h2, fun j hj => ?_⟩
  have hj' : j < p - f := by simp at hj; omega
  rw [Nat.add_assoc, hc (f + j) (by omega)]
  simp [List.getElem_take, List.getElem_drop]

/-- A slice of what was read. -/
def SliceP (w : World) (lo hi m : Nat) (l : List UInt8) (e : Ending) (w' : World) : Prop := ∃ A k, e = .returned (.slice A m m) ∧ w' = w.drewN k ∧ Bs w lo hi A m m l

set_option maxRecDepth 100000 in
set_option maxHeartbeats 400000 in
theorem since_any {w : World} {g lo hi n c f p : Nat} {A : Option Addr} {l : List UInt8} (hR : Rd w g A n c p) (hB : Bs w lo hi A n c l) (hf : f ≤ p) (hp : p ≤ n) (hn : n ≤ 2147483648) :
    Calls Try.prog 54 #[.pointer (some ⟨g, 0, none⟩), .int .i64 f] w (SliceP w lo hi (p - f) ((l.drop f).take (p - f))) := by
  have hc0 : w.cell? ⟨g, 0, none⟩ = some (.slice A n c) := hR.cell 0
  have hc1 : w.cell? ⟨g, 1, none⟩ = some (.int .i64 (p : Int)) := hR.cell 1
  clear hR
  have hnc := hB.le
  have i1 : (0 : Int) ≤ (f : Int) := by omega
  have i2 : (f : Int) ≤ (p : Int) := by omega
  have i3 : (p : Int) ≤ (c : Int) := by omega
  by_cases hfp : p = f
  · subst hfp
    rw [Nat.sub_self, List.take_zero]
    go_enter Try.func54, Try.ntmps54
    go_wp2
    go_quiet (fail)
    go_wp2
    go_ret
    exact ⟨A, _, rfl, rfl, Bs.none_ w lo hi A (by unfold maxLen; omega)⟩
  · obtain ⟨b, o, rfl, _⟩ := hB.at_ (by omega)
    go_enter Try.func54, Try.ntmps54
    go_wp2
    go_quiet (fail)
    go_wp2
    go_ret
    exact ⟨_, _, rfl, rfl, hB.sub hf hp⟩

set_option maxRecDepth 100000 in
set_option maxHeartbeats 400000 in
theorem take_no {w : World} {g n c p s : Nat} {A : Option Addr} (hR : Rd w g A n c p) (hp : p ≤ n) (hs : n < p + s) (hn : n ≤ 2147483648) (hs2 : s ≤ 2147483648) :
    Calls Try.prog 59 #[.pointer (some ⟨g, 0, none⟩), .int .i64 s] w fun e w' => e = .returned (.tuple #[.slice none 0 0, .int .i64 3]) ∧ ∃ k, w' = w.drewN k := by
  have hc0 : w.cell? ⟨g, 0, none⟩ = some (.slice A n c) := hR.cell 0
  have hc1 : w.cell? ⟨g, 1, none⟩ = some (.int .i64 (p : Int)) := hR.cell 1
  clear hR
  have i2 : (n : Int) - (p : Int) < (s : Int) := by omega
  go_enter Try.func59, Try.ntmps59
  go_wp2
  go_quiet (fail)
  go_wp2
  go_ret2
  exact ⟨rfl, _, rfl⟩

def TakeP (w : World) (g : Nat) (A : Option Addr) (n c p lo hi s : Nat) (l : List UInt8) (e : Ending) (w' : World) : Prop :=
  ∃ A', e = .returned (.tuple #[.slice A' s s, .int .i64 0]) ∧ Rd w' g A n c (p + s) ∧ w.grownBy w' (some g) ∧ Bs w' lo hi A' s s ((l.drop p).take s)

theorem rd_plus {wr : World} {g n c p k s : Nat} {A : Option Addr} (h : Rd wr g A n c p) : Rd ((wr.drewN k).setCell ⟨g, 1, none⟩ (.int .i64 ((p : Int) + (s : Int)))) g A n c (p + s) := by
  have := (h.drewN k).set_ 1 (.int .i64 ((p : Int) + (s : Int)))
  exact this

theorem take_end {w : World} {g lo hi n c p s k k' : Nat} {A A' : Option Addr} {l : List UInt8} (HR : Hid (Rd w g A n c p))
    (hB : Bs ((w.drewN k).setCell ⟨g, 1, none⟩ (.int .i64 ((p : Int) + (s : Int)))) lo hi A' (p + s - p) (p + s - p) ((l.drop p).take (p + s - p))) :
    TakeP w g A n c p lo hi s l (.returned (.tuple #[.slice A' s s, .int .i64 0])) (((w.drewN k).setCell ⟨g, 1, none⟩ (.int .i64 ((p : Int) + (s : Int)))).drewN k') := by
  rw [Nat.add_sub_cancel_left] at hB
  exact ⟨A', rfl, (rd_plus HR.out).drewN _, only_drewN (only_setCell (only_drewN (World.grownBy.refl w _) k) (.inl rfl) _) _, hB⟩

set_option maxRecDepth 100000 in
set_option maxHeartbeats 400000 in
theorem take_yes {w : World} {g lo hi n c p s : Nat} {A : Option Addr} {l : List UInt8} (hR : Rd w g A n c p) (hB : Bs w lo hi A n c l) (hg : hi ≤ g) (hs : p + s ≤ n) (hn : n ≤ 2147483648) :
    Calls Try.prog 59 #[.pointer (some ⟨g, 0, none⟩), .int .i64 s] w (TakeP w g A n c p lo hi s l) := by
  have hc0 : w.cell? ⟨g, 0, none⟩ = some (.slice A n c) := hR.cell 0
  have hc1 : w.cell? ⟨g, 1, none⟩ = some (.int .i64 (p : Int)) := hR.cell 1
  have hf1 : w.frozen? ⟨g, 1, none⟩ = false := hR.frozen 1
  have HR := Lib.hid hR
  clear hR
  have i2 : ¬ (n : Int) - (p : Int) < (s : Int) := by omega
  go_enter Try.func59, Try.ntmps59
  go_wp2
  go_quiet (fail)
  go_wp2_with fail
  refine (since_any (f := p) (rd_plus HR.out) ((hB.drewN _).setCell (.inr hg) _) (by omega) hs hn).mono ?_
  rintro e w' ⟨A', k', rfl, rfl, hB'⟩
  go_wp2
  go_ret2
  exact take_end HR hB'

/-- A number out of bytes, the lowest first. -/
def leN : List UInt8 → Nat
  | [] => 0
  | c :: r => c.toNat + 256 * leN r

/-- What a body's reading gives: (error, number, bytes, how many bytes were read). -/
def fxR (k : Nat) (l : List UInt8) : Nat × Nat × List UInt8 × Nat := if l.length < k then (3, 0, [], 0) else (0, leN (l.take k), [], k)

def BodyP (w : World) (g : Nat) (A : Option Addr) (n c p lo hi : Nat) (r : Nat × Nat × List UInt8 × Nat) (e : Ending) (w' : World) : Prop :=
  ∃ A' m p', e = .returned (.tuple #[.int .u64 r.2.1, .slice A' m m, .int .i64 r.1]) ∧ Rd w' g A n c p' ∧ w.grownBy w' (some g) ∧ Bs w' lo hi A' m m r.2.2.1 ∧ p' ≤ n ∧ (r.1 = 0 → p' = p + r.2.2.2)

theorem leN_lt : ∀ l : List UInt8, leN l < 256 ^ l.length
  | [] => by decide
  | c :: r => by
    have h := leN_lt r
    have h2 := UInt8.toNat_lt c
    rw [leN, List.length_cons, Nat.pow_succ]; omega

/-- The first i bytes as a number. -/
theorem leN_snoc (l : List UInt8) (x : UInt8) : leN (l ++ [x]) = leN l + x.toNat * 256 ^ l.length := by
  induction l with
  | nil => simp [leN]
  | cons c r ih => rw [List.cons_append, leN, ih, leN, List.length_cons, Nat.pow_succ, Nat.mul_add, ← Nat.mul_assoc x.toNat, Nat.mul_comm 256 (x.toNat * 256 ^ r.length)]; omega

theorem fstep (l : List UInt8) (x : UInt8) (h : l.length < 8) :
    bits .or .u64 (leN l : Int) (IntKind.u64.wrap ((x.toNat : Int) * 2 ^ (8 * l.length))) = ((leN (l ++ [x]) : Nat) : Int) := by
  have h1 := leN_lt l
  have h2 := UInt8.toNat_lt x
  have e : (256 : Nat) ^ l.length = 2 ^ (8 * l.length) := by rw [Nat.pow_mul]
  rw [leN_snoc, e]
  rw [e] at h1
  have h3 : (2 : Nat) ^ (8 * l.length) ≤ 2 ^ 56 := Nat.pow_le_pow_right (by decide) (by omega)
  have h4 : x.toNat * 2 ^ (8 * l.length) ≤ 255 * 2 ^ (8 * l.length) := Nat.mul_le_mul_right _ (by omega)
  have hc : ((x.toNat : Int) * 2 ^ (8 * l.length)) = ((x.toNat * 2 ^ (8 * l.length) : Nat) : Int) := by simp
  have hw : IntKind.u64.wrap ((x.toNat * 2 ^ (8 * l.length) : Nat) : Int) = ((x.toNat * 2 ^ (8 * l.length) : Nat) : Int) := by rw [IntKind.wrap_u64]; omega
  rw [hc, hw, bits_or_u64_nat _ _ (by omega) (by omega), or_shift _ _ _ h1]

def FxRel (l : List UInt8) (acc i : Nat) : Prop := acc = leN (l.take i)

theorem fx_start (l : List UInt8) : FxRel l 0 0 := rfl
theorem fx_step {l : List UInt8} {acc i s : Nat} {X : UInt8} (h : FxRel l acc i) (hi : i < s) (hs : s ≤ 8) (hl : l.length = s) (hX : l.drop i = X :: l.drop (i + 1)) :
    Value.int .u64 (bits .or .u64 (acc : Int) (IntKind.u64.wrap ((X.toNat : Int) * 2 ^ (8 * i)))) = .int .u64 ((leN (l.take (i + 1)) : Nat) : Int) := by
  unfold FxRel at h
  have hli : (l.take i).length = i := by simp; omega
  have h1 := fstep (l.take i) X (by omega)
  rw [hli] at h1
  have h2 : l.take (i + 1) = l.take i ++ [X] := by
    have h3 : l[i]? = some X := by
      have := congrArg (fun y => y[0]?) hX
      simpa [List.getElem?_drop] using this
    rw [List.take_add_one, h3]; rfl
  rw [h, h1, h2]

set_option maxRecDepth 100000 in
set_option maxHeartbeats 400000 in
theorem fixed_yes {w : World} {g lo hi n c p s : Nat} {A : Option Addr} {l : List UInt8} (hR : Rd w g A n c p) (hB : Bs w lo hi A n c l) (hg : hi ≤ g) (hs : p + s ≤ n) (hs8 : s ≤ 8) (hn : n ≤ 2147483648) :
    Calls Try.prog 58 #[.pointer (some ⟨g, 0, none⟩), .int .i64 s] w fun e w' => e = .returned (.tuple #[.int .u64 (leN ((l.drop p).take s) : Int), .slice none 0 0, .int .i64 0]) ∧ Rd w' g A n c (p + s) ∧ w.grownBy w' (some g) := by
  go_enter Try.func58, Try.ntmps58
  go_wp2_with fail
  refine (take_yes hR hB hg hs hn).mono ?_
  rintro e w1 ⟨A', rfl, hR1, hG1, hB1⟩
  have HR := Lib.hid hR1
  clear hR1 hR hB
  go_wp2
  go_loop [4, 8, 9, 21] (fun a _ _ j => ∃ acc i : Nat, a = .int .u64 acc ∧ j = .int .i64 i ∧ i ≤ s ∧ FxRel ((l.drop p).take s) acc i) (fun _ _ _ j => s - (intOf j).toNat)
  case atStart => exact ⟨0, 0, rfl, rfl, by omega, fx_start _⟩
  case round =>
    obtain ⟨acc, i, rfl, rfl, his, hfx⟩ := hrel
    by_cases hi : i < s
    · obtain ⟨X, b, o, rfl, hbh, hdr, hcx⟩ := hB1.drop_at hi
      have HD := Lib.hid hdr
      have HF := Lib.hid hfx
      clear hdr hfx
      have hX1 : X.toNat < 256 := UInt8.toNat_lt X
      go_wp2
      exact ⟨⟨leN (((l.drop p).take s).take (i + 1)), i + 1, fx_step HF.out hi hs8 hB1.len HD.out, by go_num, by omega, rfl⟩, by simp [intOf]; omega⟩
    · go_wp2
      have hf : acc = leN ((l.drop p).take s) := by
        have := hB1.len
        rw [hfx, List.take_of_length_le (by omega)]
      subst hf
      refine bodyPost_ret (v := .tuple #[.int .u64 (leN ((l.drop p).take s) : Int), .slice none 0 0, .int .i64 0]) (by simp [results, Try.results58, go_sem]) rfl ?_
      exact ⟨rfl, HR.out, hG1⟩

set_option maxRecDepth 100000 in
set_option maxHeartbeats 400000 in
theorem fixed_no {w : World} {g n c p s : Nat} {A : Option Addr} (hR : Rd w g A n c p) (hp : p ≤ n) (hs : n < p + s) (hs8 : s ≤ 8) (hn : n ≤ 2147483648) :
    Calls Try.prog 58 #[.pointer (some ⟨g, 0, none⟩), .int .i64 s] w fun e w' => e = .returned (.tuple #[.int .u64 0, .slice none 0 0, .int .i64 3]) ∧ ∃ k, w' = w.drewN k := by
  go_enter Try.func58, Try.ntmps58
  go_wp2_with fail
  refine (take_no hR hp hs hn (by omega)).mono ?_
  rintro e w1 ⟨rfl, k, rfl⟩
  clear hR
  go_wp2
  refine bodyPost_ret (v := .tuple #[.int .u64 0, .slice none 0 0, .int .i64 3]) (by simp [results, Try.results58, go_sem]) rfl ?_
  exact ⟨rfl, k, rfl⟩

theorem fixed_any {w : World} {g lo hi n c p s : Nat} {A : Option Addr} {l : List UInt8} (hR : Rd w g A n c p) (hB : Bs w lo hi A n c l) (hg : hi ≤ g) (hp : p ≤ n) (hs8 : s ≤ 8) (hn : n ≤ 2147483648) :
    Calls Try.prog 58 #[.pointer (some ⟨g, 0, none⟩), .int .i64 s] w (BodyP w g A n c p lo hi (fxR s (l.drop p))) := by
  have hl := hB.len
  by_cases hs : p + s ≤ n
  · have e : fxR s (l.drop p) = (0, leN ((l.drop p).take s), [], s) := by
      unfold fxR; rw [if_neg (by simp; omega)]
    rw [e]
    refine (fixed_yes hR hB hg hs hs8 hn).mono ?_
    rintro e w' ⟨rfl, h1, h2⟩
    exact ⟨none, 0, p + s, rfl, h1, h2, Bs.none_ _ _ _ _ (by unfold maxLen; omega), by omega, fun _ => rfl⟩
  · have e : fxR s (l.drop p) = (3, 0, [], 0) := by
      unfold fxR; rw [if_pos (by simp; omega)]
    rw [e]
    refine (fixed_no hR hp (by omega) hs8 hn).mono ?_
    rintro e w' ⟨rfl, k, rfl⟩
    exact ⟨none, 0, p, rfl, hR.drewN k, only_drewN (World.grownBy.refl _ _) k, Bs.none_ _ _ _ _ (by unfold maxLen; omega), by omega, fun h => by cases h⟩

set_option maxRecDepth 100000 in
set_option maxHeartbeats 400000 in
theorem eight_any {w : World} {g lo hi n c p : Nat} {A : Option Addr} {l : List UInt8} (hR : Rd w g A n c p) (hB : Bs w lo hi A n c l) (hg : hi ≤ g) (hp : p ≤ n) (hn : n ≤ 2147483648) :
    Calls Try.prog 55 #[.pointer (some ⟨g, 0, none⟩)] w (BodyP w g A n c p lo hi (fxR 8 (l.drop p))) := by
  obtain ⟨r, hr⟩ : ∃ r, r = fxR 8 (l.drop p) := ⟨_, rfl⟩
  have h8 := fixed_any (s := 8) hR hB hg hp (by omega) hn
  rw [← hr] at h8 ⊢
  have H := Lib.hid h8
  clear h8 hr hR hB
  go_enter Try.func55, Try.ntmps55
  go_wp2_with fail
  refine H.out.mono ?_
  rintro e w1 ⟨A', m, p', rfl, h1, h2, h3, h4, h5⟩
  have H1 := Lib.hid h1; have H5 := Lib.hid h5
  clear h1 h5
  go_wp2
  refine bodyPost_ret (v := .tuple #[.int .u64 r.2.1, .slice A' m m, .int .i64 r.1]) (by simp [results, Try.results55, go_sem]) rfl ?_
  exact ⟨A', m, p', rfl, H1.out, h2, h3, h4, H5.out⟩

set_option maxRecDepth 100000 in
set_option maxHeartbeats 400000 in
theorem four_any {w : World} {g lo hi n c p : Nat} {A : Option Addr} {l : List UInt8} (hR : Rd w g A n c p) (hB : Bs w lo hi A n c l) (hg : hi ≤ g) (hp : p ≤ n) (hn : n ≤ 2147483648) :
    Calls Try.prog 57 #[.pointer (some ⟨g, 0, none⟩)] w (BodyP w g A n c p lo hi (fxR 4 (l.drop p))) := by
  obtain ⟨r, hr⟩ : ∃ r, r = fxR 4 (l.drop p) := ⟨_, rfl⟩
  have h8 := fixed_any (s := 4) hR hB hg hp (by omega) hn
  rw [← hr] at h8 ⊢
  have H := Lib.hid h8
  clear h8 hr hR hB
  go_enter Try.func57, Try.ntmps57
  go_wp2_with fail
  refine H.out.mono ?_
  rintro e w1 ⟨A', m, p', rfl, h1, h2, h3, h4, h5⟩
  have H1 := Lib.hid h1; have H5 := Lib.hid h5
  clear h1 h5
  go_wp2
  refine bodyPost_ret (v := .tuple #[.int .u64 r.2.1, .slice A' m m, .int .i64 r.1]) (by simp [results, Try.results57, go_sem]) rfl ?_
  exact ⟨A', m, p', rfl, H1.out, h2, h3, h4, H5.out⟩

/-- Bytes that are preceded by their number. -/
def ctR (l : List UInt8) : Nat × Nat × List UInt8 × Nat :=
  let r := rv l 0 0
  if r.1 ≠ 0 then (r.1, 0, [], 0) else if 1048576 < r.2.1 then (5, 0, [], 0) else if l.length < r.2.2 + r.2.1 then (3, 0, [], 0) else (0, 0, (l.drop r.2.2).take r.2.1, r.2.2 + r.2.1)

theorem rv_bound : ∀ (l : List UInt8) (i acc : Nat), i ≤ 9 → acc < 2 ^ (7 * i) → (rv l i acc).2.1 < 18446744073709551616 ∧ ((rv l i acc).1 = 0 → i < (rv l i acc).2.2 ∧ (rv l i acc).2.2 ≤ i + l.length)
  | [], i, acc, _, _ => by simp [rv]
  | c :: r, i, acc, hi, ha => by
    rw [rv]
    by_cases h1 : i = 9 ∧ 1 < c.toNat
    · rw [if_pos h1]; simp
    · rw [if_neg h1]
      have hs := vstep acc c.toNat i ha hi (fun h => by omega)
      by_cases h2 : c.toNat < 128
      · rw [if_pos h2]; simp only [List.length_cons]; exact ⟨hs.2.1, fun _ => by omega⟩
      · rw [if_neg h2]
        have h9 : i < 9 := by omega
        have ih := rv_bound r (i + 1) _ (by omega) (hs.2.2 h9)
        refine ⟨ih.1, fun h => ?_⟩
        have := ih.2 h
        simp only [List.length_cons]; omega
theorem rv_err : ∀ (l : List UInt8) (i acc : Nat), (rv l i acc).1 ≠ 0 → (rv l i acc) = ((rv l i acc).1, 0, 0) ∧ ((rv l i acc).1 = 3 ∨ (rv l i acc).1 = 4)
  | [], i, acc, _ => by simp [rv]
  | c :: r, i, acc, h => by
    rw [rv] at h ⊢
    by_cases h1 : i = 9 ∧ 1 < c.toNat
    · rw [if_pos h1]; simp
    · rw [if_neg h1] at h ⊢
      by_cases h2 : c.toNat < 128
      · rw [if_pos h2] at h; simp at h
      · rw [if_neg h2] at h ⊢
        exact rv_err r (i + 1) _ h
end Go.Proofs.Ytlckppmggklinaa
