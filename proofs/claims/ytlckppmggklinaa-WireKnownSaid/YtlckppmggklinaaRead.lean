/-
  The reader: varint.
-/
import Derived.Test.YtlckppmggklinaaMay
import Derived.Deep.QuietTactic
import Derived.BigQuiet
namespace Go.Proofs.Ytlckppmggklinaa
open Go.RowKit
set_option linter.unusedVariables false

/-- Block g of the world is a row of cells cs of type t that may be written. -/
def Blk (w : World) (g : Nat) (t : TypeId) (cs : Array Value) : Prop := w.heap[g]? = some (.cells cs t (0, 0))
section
variable {w w' : World} {g : Nat} {t : TypeId} {cs : Array Value}
/-- A block that reads as before is the same row. -/
theorem Blk.stays (h : Blk w g t cs) (e : w'.heap[g]? = w.heap[g]?) : Blk w' g t cs := Eq.trans e h
theorem Blk.lt (h : Blk w g t cs) : g < w.heap.size :=
  Nat.lt_of_not_le fun hn => by have := Array.getElem?_eq_none hn; rw [show w.heap[g]? = _ from h] at this; cases this
theorem Blk.cell (h : Blk w g t cs) (i : Nat) : w.cell? ⟨g, i, none⟩ = cs[i]? := cell_of_row w g i cs t (0, 0) h
theorem Blk.frozen (h : Blk w g t cs) (i : Nat) : w.frozen? ⟨g, i, none⟩ = false := by simp [World.frozen?, show w.heap[g]? = _ from h]
theorem Blk.new (w : World) (t : TypeId) (cs : Array Value) : Blk (w.alloc (.cells cs t)) w.heap.size t cs := heap_alloc_new w _
theorem Blk.drew (h : Blk w g t cs) : Blk w.drew g t cs := h.stays rfl
theorem Blk.drewN (h : Blk w g t cs) (n : Nat) : Blk (w.drewN n) g t cs := h.stays rfl
theorem Blk.alloc (h : Blk w g t cs) (o : Obj) : Blk (w.alloc o) g t cs := h.stays (Below.heap_alloc w o g h.lt)
theorem Blk.set_ (h : Blk w g t cs) (i : Nat) (u : Value) : Blk (w.setCell ⟨g, i, none⟩ u) g t (cs.setIfInBounds i u) := by
  show (w.setCell ⟨g, i, none⟩ u).heap[g]? = _
  simp [World.setCell, Array.getElem?_modify, show w.heap[g]? = _ from h]
theorem Blk.far (h : Blk w g t cs) {p : Addr} (hp : g ≠ p.block) (u : Value) : Blk (w.setCell p u) g t cs := h.stays (Below.heap_setCell w p u g hp)
theorem Blk.below {B : Nat} (h : Blk w g t cs) (hb : Below B w w') (hg : g < B) : Blk w' g t cs := h.stays (hb.block g hg)
theorem Blk.grown {row : Option Nat} (h : Blk w g t cs) (hb : w.grownBy w' row) (hg : some g ≠ row) : Blk w' g t cs := h.stays (hb.block g h.lt hg)
end
/-- One step more: what is not row's, and was there at first, is as it was. -/
theorem only_step {a w w' : World} {row : Option Nat} (h : a.grownBy w row) (ho : w'.os = w.os) (ht : w'.tape = w.tape) (hp : w'.output = w.output) (hs : w.heap.size ≤ w'.heap.size)
    (hb : ∀ i, i < a.heap.size → some i ≠ row → w'.heap[i]? = w.heap[i]?) : a.grownBy w' row where
  os := ho.trans h.os
  tape := ht.trans h.tape
  output := hp.trans h.output
  size := Nat.le_trans h.size hs
  block := fun i hi hne => (hb i hi hne).trans (h.block i hi hne)
theorem only_drewN {a w : World} {row : Option Nat} (h : a.grownBy w row) (n : Nat) : a.grownBy (w.drewN n) row := only_step h rfl rfl rfl (Nat.le_refl _) (fun _ _ _ => rfl)
theorem only_drew {a w : World} {row : Option Nat} (h : a.grownBy w row) : a.grownBy w.drew row := only_step h rfl rfl rfl (Nat.le_refl _) (fun _ _ _ => rfl)
theorem only_alloc {a w : World} {row : Option Nat} (h : a.grownBy w row) (o : Obj) : a.grownBy (w.alloc o) row :=
  only_step h rfl rfl rfl (by simp) (fun i hi _ => Below.heap_alloc w o i (Nat.lt_of_lt_of_le hi h.size))
theorem only_setCell {a w : World} {g : Nat} (h : a.grownBy w (some g)) {p : Addr} (hp : p.block = g ∨ a.heap.size ≤ p.block) (u : Value) : a.grownBy (w.setCell p u) (some g) :=
  only_step h rfl rfl rfl (by simp [World.setCell]) (fun i hi hne => Below.heap_setCell w p u i (fun e => by
    subst e
    exact hp.elim (fun e => hne (congrArg some e)) (fun e => by omega)))
theorem only_trans {a b c : World} {g : Nat} (h : a.grownBy b (some g)) (k : b.grownBy c (some g)) : a.grownBy c (some g) :=
  only_step h k.os k.tape k.output k.size (fun i hi hne => k.block i (Nat.lt_of_lt_of_le hi h.size) hne)

/-- A number out of bytes, seven bits a byte: (error, number, how many bytes). -/
def rv : List UInt8 → Nat → Nat → Nat × Nat × Nat
  | [], _, _ => (3, 0, 0)
  | c :: r, i, acc =>
    if i = 9 ∧ 1 < c.toNat then (4, 0, 0)
    else if c.toNat < 128 then (0, acc + c.toNat % 128 * 2 ^ (7 * i), i + 1)
    else rv r (i + 1) (acc + c.toNat % 128 * 2 ^ (7 * i))

/-- The reader's block. -/
def Rd (w : World) (g : Nat) (A : Option Addr) (n c at_ : Nat) : Prop := Blk w g 70 #[.slice A n c, .int .i64 at_]

def VarP (w : World) (g : Nat) (A : Option Addr) (n c at_ : Nat) (r : Nat × Nat × Nat) (e : Ending) (w' : World) : Prop :=
  ∃ p : Nat, e = .returned (.tuple #[.int .u64 r.2.1, .slice none 0 0, .int .i64 r.1]) ∧ Rd w' g A n c p ∧ w.grownBy w' (some g) ∧ p ≤ n ∧ (r.1 = 0 → p = at_ + r.2.2)

def VarRel (w : World) (g : Nat) (A : Option Addr) (n c at_ : Nat) (l : List UInt8) (r : Nat × Nat × Nat) (i acc p : Nat) (wr : World) : Prop :=
  Rd wr g A n c p ∧ w.grownBy wr (some g) ∧ p = at_ + i ∧ rv (l.drop p) i acc = r ∧ acc < 2 ^ (7 * i)

theorem Bs.drop_at {w : World} {lo hi n c p : Nat} {A : Option Addr} {l : List UInt8} (h : Bs w lo hi A n c l) (hp : p < n) :
    ∃ X b o, A = some ⟨b, o, none⟩ ∧ b < hi ∧ l.drop p = X :: l.drop (p + 1) ∧ w.cell? ⟨b, o + p, none⟩ = some (.int .u8 (X.toNat : Int)) := by
  have hl := h.len
  obtain ⟨b, o, rfl, _, hb, hc⟩ := h.at_ (by omega)
  exact ⟨l[p], b, o, rfl, hb, List.drop_eq_getElem_cons (by omega), hc p (by omega)⟩

theorem vr_trunc {w wr : World} {g n c at_ i acc p k : Nat} {A : Option Addr} {l : List UInt8} {r : Nat × Nat × Nat} (HR : Hid (Rd wr g A n c p)) (hgr : w.grownBy wr (some g)) (HV : Hid (rv (l.drop p) i acc = r)) (HP : Hid (p = n)) (hl : l.length = n) :
    VarP w g A n c at_ r (.returned (.tuple #[.int .u64 0, .slice none 0 0, .int .i64 3])) (wr.drewN k) := by
  have hr : r = (3, 0, 0) := by rw [← HV.out, HP.out, List.drop_eq_nil_of_le (by omega)]; rfl
  subst hr
  exact ⟨p, rfl, HR.out.drewN k, only_drewN hgr k, by have := HP.out; omega, fun h => by cases h⟩


theorem or_shift (acc y k : Nat) (h : acc < 2 ^ k) : acc ||| y * 2 ^ k = acc + y * 2 ^ k := by
  have := Nat.shiftLeft_add_eq_or_of_lt h y
  rw [Nat.shiftLeft_eq] at this
  rw [Nat.or_comm, ← this]; omega

theorem vstep (acc x i : Nat) (ha : acc < 2 ^ (7 * i)) (hi : i ≤ 9) (hx : i = 9 → x ≤ 1) :
    bits .or .u64 (acc : Int) (IntKind.u64.wrap ((x : Int) % 128 * 2 ^ (7 * i))) = ((acc + x % 128 * 2 ^ (7 * i) : Nat) : Int) ∧ acc + x % 128 * 2 ^ (7 * i) < 18446744073709551616 ∧ (i < 9 → acc + x % 128 * 2 ^ (7 * i) < 2 ^ (7 * (i + 1))) := by
  have hc : ((x : Int) % 128 * 2 ^ (7 * i)) = ((x % 128 * 2 ^ (7 * i) : Nat) : Int) := by simp
  have hlt : i < 9 → acc + x % 128 * 2 ^ (7 * i) < 2 ^ (7 * (i + 1)) := fun _ => by
    rw [show 7 * (i + 1) = 7 * i + 7 by omega, Nat.pow_add]
    have h1 : x % 128 ≤ 127 := by omega
    have h2 := Nat.mul_le_mul_right (2 ^ (7 * i)) h1
    omega
  have h64 : acc + x % 128 * 2 ^ (7 * i) < 18446744073709551616 := by
    by_cases h9 : i = 9
    · subst h9
      have h1 := hx rfl
      have h2 : x % 128 ≤ 1 := by omega
      have h3 := Nat.mul_le_mul_right (2 ^ (7 * 9)) h2
      have h4 : (2 : Nat) ^ (7 * 9) = 9223372036854775808 := by decide
      omega
    · have h1 := hlt (by omega)
      have h2 : (2 : Nat) ^ (7 * (i + 1)) ≤ 2 ^ 63 := Nat.pow_le_pow_right (by decide) (by omega)
      omega
  refine ⟨?_, h64, hlt⟩
  have hw : IntKind.u64.wrap ((x % 128 * 2 ^ (7 * i) : Nat) : Int) = ((x % 128 * 2 ^ (7 * i) : Nat) : Int) := by rw [IntKind.wrap_u64]; omega
  rw [hc, hw, bits_or_u64_nat _ _ (by omega) (by omega), or_shift _ _ _ ha]

theorem rd_step {wr : World} {g n c p k : Nat} {A : Option Addr} (h : Rd wr g A n c p) : Rd ((wr.drewN k).setCell ⟨g, 1, none⟩ (.int .i64 ((p : Int) + 1))) g A n c (p + 1) := by
  have := (h.drewN k).set_ 1 (.int .i64 ((p : Int) + 1))
  exact this

theorem vr_done {w wr : World} {g n c at_ i acc p k x : Nat} {X : UInt8} {A : Option Addr} {l : List UInt8} {r : Nat × Nat × Nat} (HR : Hid (Rd wr g A n c p)) (hgr : w.grownBy wr (some g)) (HV : Hid (rv (l.drop p) i acc = r)) (HI : Hid (p = at_ + i)) (HA : Hid (acc < 2 ^ (7 * i)))
    (HX : Hid (x = X.toNat)) (HD : Hid (l.drop p = X :: l.drop (p + 1))) (hpn : p < n) (hi : i ≤ 9) (hx9 : i = 9 → x ≤ 1) (hx : x < 128) :
    VarP w g A n c at_ r (.returned (.tuple #[.int .u64 (bits .or .u64 (acc : Int) (IntKind.u64.wrap ((x : Int) % 128 * 2 ^ (7 * i)))), .slice none 0 0, .int .i64 0])) ((wr.drewN k).setCell ⟨g, 1, none⟩ (.int .i64 ((p : Int) + 1))) := by
  have hr : r = (0, acc + x % 128 * 2 ^ (7 * i), i + 1) := by
    rw [← HV.out, HD.out, rv, ← HX.out, if_neg (fun h => by have := hx9 h.1; omega), if_pos hx]
  subst hr
  rw [(vstep acc x i HA.out hi hx9).1]
  refine ⟨p + 1, rfl, rd_step HR.out, only_setCell (only_drewN hgr k) (.inl rfl) _, by omega, fun _ => ?_⟩
  have := HI.out
  simp only; omega

theorem vr_form {w wr : World} {g n c at_ i acc p k x : Nat} {X : UInt8} {A : Option Addr} {l : List UInt8} {r : Nat × Nat × Nat} (HR : Hid (Rd wr g A n c p)) (hgr : w.grownBy wr (some g)) (HV : Hid (rv (l.drop p) i acc = r))
    (HX : Hid (x = X.toNat)) (HD : Hid (l.drop p = X :: l.drop (p + 1))) (hpn : p < n) (hi : i = 9) (hx : 1 < x) :
    VarP w g A n c at_ r (.returned (.tuple #[.int .u64 0, .slice none 0 0, .int .i64 4])) ((wr.drewN k).setCell ⟨g, 1, none⟩ (.int .i64 ((p : Int) + 1))) := by
  have hr : r = (4, 0, 0) := by
    rw [← HV.out, HD.out, rv, ← HX.out, if_pos ⟨hi, hx⟩]
  subst hr
  exact ⟨p + 1, rfl, rd_step HR.out, only_setCell (only_drewN hgr k) (.inl rfl) _, by omega, fun h => by cases h⟩

theorem vr_more {w wr : World} {g n c at_ i acc p k x : Nat} {X : UInt8} {A : Option Addr} {l : List UInt8} {r : Nat × Nat × Nat} (HR : Hid (Rd wr g A n c p)) (hgr : w.grownBy wr (some g)) (HV : Hid (rv (l.drop p) i acc = r)) (HI : Hid (p = at_ + i)) (HA : Hid (acc < 2 ^ (7 * i)))
    (HX : Hid (x = X.toNat)) (HD : Hid (l.drop p = X :: l.drop (p + 1))) (hi : i < 9) (hx : ¬ x < 128) :
    Value.int .u64 (bits .or .u64 (acc : Int) (IntKind.u64.wrap ((x : Int) % 128 * 2 ^ (7 * i)))) = .int .u64 ((acc + x % 128 * 2 ^ (7 * i) : Nat) : Int) ∧
    VarRel w g A n c at_ l r (i + 1) (acc + x % 128 * 2 ^ (7 * i)) (p + 1) ((wr.drewN k).setCell ⟨g, 1, none⟩ (.int .i64 ((p : Int) + 1))) := by
  have h := vstep acc x i HA.out (by omega) (fun h => by omega)
  refine ⟨by rw [h.1], rd_step HR.out, only_setCell (only_drewN hgr k) (.inl rfl) _, by have := HI.out; omega, ?_, h.2.2 hi⟩
  rw [← HV.out, HD.out, rv, ← HX.out, if_neg (fun h => by omega), if_neg hx]

set_option maxRecDepth 100000 in
set_option maxHeartbeats 400000 in
theorem varint_any {w : World} {g lo hi n c at_ : Nat} {A : Option Addr} {l : List UInt8} (hR : Rd w g A n c at_) (hB : Bs w lo hi A n c l) (hg : hi ≤ g) (hat : at_ ≤ n) (hn : n ≤ 2147483648) :
    Calls Try.prog 52 #[.pointer (some ⟨g, 0, none⟩)] w (VarP w g A n c at_ (rv (l.drop at_) 0 0)) := by
  obtain ⟨r, hr⟩ : ∃ r, r = rv (l.drop at_) 0 0 := ⟨_, rfl⟩
  rw [← hr]
  have hst : VarRel w g A n c at_ l r 0 0 at_ w := ⟨hR, World.grownBy.refl w _, rfl, hr.symm, by decide⟩
  have hgl : g < w.heap.size := hR.lt
  clear hr hR
  go_enter Try.func52, Try.ntmps52
  go_wp2
  go_loopw [2, 5] (fun a s wr => ∃ i acc p : Nat, a = .int .u64 acc ∧ s = .int .i64 (7 * i) ∧ i ≤ 9 ∧ p ≤ n ∧ VarRel w g A n c at_ l r i acc p wr) (fun _ s _ => 70 - (intOf s).toNat)
  case atStart => exact ⟨0, 0, at_, rfl, rfl, by omega, hat, hst⟩
  case round =>
    obtain ⟨i, acc, p, rfl, rfl, hi9, hpn, hrd, hgr, hpi, hrv, hacc⟩ := hrel
    clear hst
    have HI := Lib.hid hpi; have HV := Lib.hid hrv; have HA := Lib.hid hacc
    clear hpi hrv hacc
    have HR := Lib.hid hrd
    have HR0 : g < w.heap.size := hgl
    have hc0 : wr.cell? ⟨g, 0, none⟩ = some (.slice A n c) := hrd.cell 0
    have hc1 : wr.cell? ⟨g, 1, none⟩ = some (.int .i64 (p : Int)) := hrd.cell 1
    have hf1 : wr.frozen? ⟨g, 1, none⟩ = false := hrd.frozen 1
    clear hrd
    by_cases hpe : p = n
    · have hb : ((p : Int) == (n : Int)) = true := by simp [hpe]
      have HP := Lib.hid hpe; clear hpe
      go_wp2
      go_quiet (fail)
      go_wp2
      refine bodyPost_ret (v := .tuple #[.int .u64 0, .slice none 0 0, .int .i64 3]) (by simp [results, Try.results52, go_sem]) rfl ?_
      exact vr_trunc HR hgr HV HP hB.len
    · have hb : ((p : Int) == (n : Int)) = false := by simp; omega
      have hp0 : (0 : Int) ≤ (p : Int) := by omega
      have hp1 : (p : Int) < (n : Int) := by omega
      have hB' := hB.kept (.of_grown hgr (Nat.le_trans hg (Nat.le_of_lt HR0)) (fun x hx => .inr (by injection hx with hx; omega)))
      obtain ⟨X, b, o, rfl, hbh, hdr, hcx⟩ := hB'.drop_at (p := p) (by omega)
      obtain ⟨x, hx⟩ : ∃ x, x = X.toNat := ⟨_, rfl⟩
      rw [← hx] at hcx
      have hx256 : x < 256 := by rw [hx]; exact UInt8.toNat_lt _
      have HX := Lib.hid hx
      have HD := Lib.hid hdr
      clear hx hdr hB'
      have eand : bits .and .u8 (x : Int) 127 = (x : Int) % 128 := by
        have h := bits_mask .u8 8 (by decide) wraps_u8 7 (by decide) (x : Int) (by omega) (by omega)
        simpa using h
      by_cases hi : i = 9
      · have hb2 : ((7 * (i : Int)) == 63) = true := by simp; omega
        have H9 := Lib.hid hi
        clear hi hpe
        by_cases hx1 : 1 < x
        · go_wp2
          go_quiet (fail)
          go_wp2
          go_quiet (fail)
          go_wp2
          refine bodyPost_ret (v := .tuple #[.int .u64 0, .slice none 0 0, .int .i64 4]) (by simp [results, Try.results52, go_sem]) rfl ?_
          exact vr_form HR hgr HV HX HD (by omega) H9.out hx1
        · have hx2 : x < 128 := by omega
          go_wp2
          go_quiet (fail)
          go_wp2
          go_quiet (fail)
          go_wp2
          refine bodyPost_ret (v := .tuple #[.int .u64 (bits .or .u64 (acc : Int) (IntKind.u64.wrap ((x : Int) % 128 * 2 ^ (7 * i)))), .slice none 0 0, .int .i64 0]) (by simp [results, Try.results52, go_sem]) rfl ?_
          exact vr_done HR hgr HV HI HA HX HD (by omega) hi9 (fun _ => by omega) hx2
      · have hb2 : ((7 * (i : Int)) == 63) = false := by simp; omega
        by_cases hx1 : x < 128
        · go_wp2
          go_quiet (fail)
          go_wp2
          go_quiet (fail)
          go_wp2
          refine bodyPost_ret (v := .tuple #[.int .u64 (bits .or .u64 (acc : Int) (IntKind.u64.wrap ((x : Int) % 128 * 2 ^ (7 * i)))), .slice none 0 0, .int .i64 0]) (by simp [results, Try.results52, go_sem]) rfl ?_
          exact vr_done HR hgr HV HI HA HX HD (by omega) hi9 (fun h => absurd h hi) hx1
        · go_wp2
          go_quiet (fail)
          go_wp2
          go_quiet (fail)
          go_wp2
          go_roundw
          case rel =>
            exact ⟨i + 1, _, p + 1, (vr_more (k := 0) HR hgr HV HI HA HX HD (by omega) hx1).1, by go_num, by omega, by omega, (vr_more HR hgr HV HI HA HX HD (by omega) hx1).2⟩
          case measure => simp [intOf]; omega
end Go.Proofs.Ytlckppmggklinaa
