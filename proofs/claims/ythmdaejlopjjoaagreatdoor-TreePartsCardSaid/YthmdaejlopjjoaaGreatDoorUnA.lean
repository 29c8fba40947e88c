/-
  appendEscaped: digits of a rune, of a byte.
  Unquote.
  Unquote: the parts.
  Unquote: the loop.
-/
import Derived.Test.YthmdaejlopjjoaaGreatDoorEsA
import Derived.Deep.QuietTactic
import Derived.BigQuiet
import Derived.WalkMore
import Derived.Deep.LoopGhost
namespace Go.Proofs.YthmdaejlopjjoaaGreatDoor
section
open Go.RowKit
open Go.Lib (byteCells)
set_option linter.unusedVariables false
set_option linter.unusedSimpArgs false

set_option maxRecDepth 100000 in
set_option maxHeartbeats 400000 in
theorem escaped_num {w : World} {base b : Nat} {v : Value} {l : List UInt8} {x : Esc} {N : Int} {C : Nat} (s : ByteArray) (ho : Own w base v l) (hm : MapAt w b escs) (hsz : s.size ≤ 1000000) (hb : base ≤ w.heap.size) (hl0 : l.length ≤ 1000000000) (hp : 0 < s.size) (hx : lookT escT (s[0].toNat : Nat) = some x) (hbase : x.base ≠ 0)
    (hN : nmF x.base x.most 0 (s.data.toList.drop x.skip) = (N, C)) (hge : x.least ≤ C) (hxr : x.r = false) (hr : N ≤ 255) :
    Calls Tryz.prog 198 #[v, .string s, .map (some b)] w (EscP w base l ([UInt8.ofNat N.toNat], x.skip + C)) := by
  have e1 := (str_ne hp).1
  have e2 := (str_ne hp).2
  have hf := esc_fine _ _ hx
  have hl := run_look (P := Tryz.prog) hm Tryz.underlying231 Tryz.underlying5 (s[0].toNat : Nat) _ (Tryz.zero256 w)
  rw [escs_eq, look_map, hx] at hl
  simp only [Option.map_some, Option.getD_some, Option.isSome_some, Esc.val] at hl
  obtain ⟨xv, xb, xs, xl, xm, xr⟩ := x
  simp only at hl hf hbase hN hge hxr
  subst hxr
  obtain ⟨f1, f2, f3, f4⟩ := hf
  have hfine := nm_fine (by omega) f4 hN
  have hnum : ∀ W, Calls Tryz.prog 220 #[.string (s.extract xs s.size), .int .i64 xb, .int .i64 xm] W fun e w' => e = .returned (.tuple #[.int .i64 N, .int .i64 (C : Nat)]) ∧ w' = W := by
    intro W
    refine (number_t (s.extract xs s.size) xb xm W (by omega) (by omega) (by simp [ByteArray.size_extract]; omega)).mono ?_
    rw [Lib.extract_to_end, hN]
    exact fun e w' h => ⟨h.1, h.2.symm⟩
  have HNUM := Lib.hid hnum
  have hb0 : ((xb : Int) == 0) = false := by simp; omega
  have hx0 : (0 : Int) ≤ (xs : Int) := by omega
  have hx1 : (xs : Int) ≤ (s.size : Int) := by omega
  have hx2 : ((xs : Int)).toNat = xs := by omega
  obtain ⟨g1, g2, g3, g4⟩ := hfine
  have hge' : ¬ (C : Int) < (xl : Int) := by omega
  have ag : v.ownBlock ≠ some w.heap.size := fun h => by have := (ho.lt h).2; omega
  have hwr : IntKind.i64.wrap ((xs : Int) + (C : Int)) = (xs : Int) + (C : Int) := IntWalk.i64_in _ (by omega)
  have hw8 : IntKind.u8.wrap N = N := IntWalk.u8_in _ (by omega)
  have hall : ∀ (o : Obj) W, W.heap = (w.alloc o).heap → Own W base v l := fun o W hW => (ho.alloc o).kept fun g hg => by rw [hW]
  have HALL := Lib.hid hall
  have hB : ∀ (o : Obj) (m : Nat), Below base w ((w.alloc o).drewN m) := fun o m => Below.drewN_ ((Below.refl _ _).alloc hb _) _
  have HB := Lib.hid hB
  clear hB hall hm hx hN hnum f2 f3 f4 hbase
  go_enter Tryz.func198, Tryz.ntmps198
  go_wp2_with fail
  go_quiet ((go_at_call 220; exact Calls.quiet_of_same (HNUM.out _)))
  go_wp2_with fail
  have HW := Lib.hid (HB.out (.cells #[.int .u8 xv, .int .i64 xb, .int .i64 xs, .int .i64 xl, .int .i64 xm, .bool false] 256) nq)
  have hc2 : ((w.alloc (.cells #[.int .u8 xv, .int .i64 xb, .int .i64 xs, .int .i64 xl, .int .i64 xm, .bool false] 256)).drewN nq).cell? ⟨w.heap.size, 2, none⟩ = some (.int .i64 xs) := by simp
  have hall := HALL.out (.cells #[.int .u8 xv, .int .i64 xb, .int .i64 xs, .int .i64 xl, .int .i64 xm, .bool false] 256) ((w.alloc (.cells #[.int .u8 xv, .int .i64 xb, .int .i64 xs, .int .i64 xl, .int .i64 xm, .bool false] 256)).drewN nq) rfl
  have hgt : w.heap.size < ((w.alloc (.cells #[.int .u8 xv, .int .i64 xb, .int .i64 xs, .int .i64 xl, .int .i64 xm, .bool false] 256)).drewN nq).heap.size := by simp
  have hln : l.length + 1 ≤ maxLen := by unfold maxLen; omega
  have hl2 : (l.length + 1) * 1 ≤ 140737488355328 := by omega
  have OW := Lib.hid hall
  clear hall HALL HB
  generalize ((w.alloc (.cells #[.int .u8 xv, .int .i64 xb, .int .i64 xs, .int .i64 xl, .int .i64 xm, .bool false] 256)).drewN nq) = W at *
  have hbW : base ≤ W.heap.size + 1 := by omega
  have HBB := Lib.hid (show base ≤ W.heap.size by omega)
  clear hl e1 e2 hb0 hx2 hge hge' g3 g4 f1 hx0 hx1 hsz hl0
  have HO := Lib.hid ho
  have AG := Lib.hid ag
  clear ho HNUM ag hb
  obtain ⟨i0, hi0, hz0, hz1, hz2⟩ := info_parts Tryz.info5k
  go_region_held3 (fun w' => w'.cell? ⟨w.heap.size, 2, none⟩ = some (.int .i64 xs))
    (first | assumption | go_keep | (refine (hgrow.cell_far _ (by simp; omega) (Ne.symm AG.out)).trans ?_; go_keep))
    ((refine step_append_lies _ (by rfl) _ _ _ (by rfl) base 5 i0 (.int .u8 0) 1 1 Tryz.underlying165 hi0 hz0 hz1 hz2 rfl (by omega) v l.length (byteCells l) (by rfl) ((OW.out.alloc _).drew)
        ⟨W.heap.size, 0, none⟩ 1 1 [.int .u8 N] (by rfl) (by rfl) (World.news_of_block (cs := #[.int .u8 N]) (t := 5) (fr := (0, 0)) (heap_alloc_new W _)) (by simp [Value.oneCell'])
        (by omega) hln hl2 (by simp; omega) (W.heap.size + 1) (by simp) ?_; intro gg cap w1 hown1 hgrow hat hlt))
  go_wp2_with fail
  go_ret2
  refine ⟨_, rfl, ?_, HW.out.trans (Below.grown ((((Below.refl _ _).alloc (Nat.le_refl _) _).drew).mono HBB.out) hgrow (by simp; omega) (fun g e => (HO.out.lt e).1))⟩
  unfold Own
  rw [List.length_append, Lib.byteCells_append]
  have e : byteCells [UInt8.ofNat N.toNat] = [.int .u8 N] := by simp only [byteCells, List.map_cons, List.map_nil]; rw [ofNat_toNat8 g1 (by omega)]
  rw [e]
  exact hown1

/-- appendEscaped: the bytes are joined, and it is told how many bytes of the text they took. -/
theorem escaped_any {w : World} {base b : Nat} {v : Value} {l : List UInt8} (s : ByteArray) (ho : Own w base v l) (hm : MapAt w b escs) (hsz : s.size ≤ 1000000) (hb : base ≤ w.heap.size) (hl0 : l.length ≤ 1000000000) :
    Calls Tryz.prog 198 #[v, .string s, .map (some b)] w (EscP w base l (escL s.data.toList)) := by
  rcases Nat.eq_zero_or_pos s.size with h0 | hp
  · have hl : s.data.toList = [] := List.eq_nil_of_length_eq_zero (by simpa using h0)
    rw [hl, escL]
    exact escaped_none s ho hm hsz hb (.inl h0)
  · have hc : s.data.toList = s[0] :: s.data.toList.drop 1 := by
      have := drop_at s 0 hp
      simpa using this
    have he : escL s.data.toList = match lookT escT (s[0].toNat : Nat) with | none => ([], 0) | some x => escX x s.data.toList := by
      conv => lhs; rw [hc]
      rw [escL, ← hc]
      rfl
    rw [he]
    cases hx : lookT escT (s[0].toNat : Nat) with
    | none => exact escaped_none s ho hm hsz hb (.inr ⟨hp, hx⟩)
    | some x =>
      simp only [escX]
      by_cases h0 : x.base = 0
      · rw [if_pos h0]
        exact escaped_byte s ho hm hsz hb hl0 hp hx h0
      · rw [if_neg h0]
        obtain ⟨⟨N, C⟩, hN⟩ : ∃ q, nmF x.base x.most 0 (s.data.toList.drop x.skip) = q := ⟨_, rfl⟩
        rw [hN, escN]
        simp only
        by_cases hge : C < x.least
        · rw [if_pos hge]; exact escaped_few s ho hm hsz hb hl0 hp hx h0 hN (.inl hge)
        · rw [if_neg hge]
          cases hr : x.r
          · by_cases hn : N ≤ 255
            · simp only [Bool.false_and, Bool.not_false, Bool.true_and, hn, decide_true, if_true, Bool.false_eq_true, if_false]
              exact escaped_num s ho hm hsz hb hl0 hp hx h0 hN (by omega) hr hn
            · simp only [Bool.false_and, Bool.not_false, Bool.true_and, hn, decide_false, Bool.false_eq_true, if_false]
              exact escaped_few s ho hm hsz hb hl0 hp hx h0 hN (.inr ⟨by omega, .inr ⟨hr, by omega⟩⟩)
          · cases hn : rnB N
            · simp only [Bool.true_and, Bool.not_true, Bool.false_and, Bool.false_eq_true, if_false]
              exact escaped_few s ho hm hsz hb hl0 hp hx h0 hN (.inr ⟨by omega, .inl ⟨hr, hn⟩⟩)
            · simp only [Bool.true_and, if_true]
              exact escaped_rune s ho hm hsz hb hl0 hp hx h0 hN (by omega) hr hn
end
section
open Go.RowKit
set_option linter.unusedVariables false
set_option linter.unusedSimpArgs false

/-- The parts of a literal, up to its last quote. -/
def uqF (q : Int) : Nat → List UInt8 → Option (List UInt8)
  | _, [] => some []
  | 0, _ :: _ => none
  | k + 1, c :: r => if (c.toNat : Int) < 32 ∨ (c.toNat : Int) = q then none else if (c.toNat : Int) ≠ 92 then (uqF q k r).map (c :: ·)
    else if (escL r).2 = 0 then none else (uqF q k (r.drop (escL r).2)).map ((escL r).1 ++ ·)

/-- The value of a literal. -/
def unqL (l : List UInt8) : Option (List UInt8) :=
  if l.length < 2 then none else if (l.headD 0).toNat ≠ 34 ∧ (l.headD 0).toNat ≠ 39 then none else if l.getD (l.length - 1) 0 ≠ l.headD 0 then none
  else uqF ((l.headD 0).toNat : Nat) l.length ((l.drop 1).take (l.length - 2))
def ansR (o : Option (List UInt8)) : Nat × List UInt8 := match o with | none => (21, []) | some b => (0, b)

set_option maxRecDepth 100000 in
set_option maxHeartbeats 1000000 in
theorem unquote_short (s : ByteArray) (w : World) (h : s.size < 2) : Calls Tryz.prog 172 #[.string s] w (BytesP w (21, [])) := by
  have h' : decide ((s.size : Int) < 2) = true := by simp; omega
  go_enter Tryz.func172, Tryz.ntmps172
  go_wp2_with fail
  go_step3
  go_wp2_with fail
  go_quiet (fail)
  go_wp2_with fail
  rw [Exit.noGoto_ret]
  go_ret2
  exact ⟨_, rfl, Own.nil _ _, Below.drewN_ (Below.refl _ _) _⟩

set_option maxRecDepth 100000 in
set_option maxHeartbeats 1000000 in
theorem unquote_odd (s : ByteArray) (w : World) (h : 2 ≤ s.size) (hsz : s.size ≤ 1000000) (hq : (s[0].toNat : Int) ≠ 34) (hq2 : (s[0].toNat : Int) ≠ 39) : Calls Tryz.prog 172 #[.string s] w (BytesP w (21, [])) := by
  have h' : decide ((s.size : Int) < 2) = false := by simp; omega
  have h1 : (((s[0].toNat : Nat) : Int) == 34) = false := by simp; omega
  have h2 : (((s[0].toNat : Nat) : Int) == 39) = false := by simp; omega
  have hp : 0 < s.size := by omega
  go_enter Tryz.func172, Tryz.ntmps172
  go_wp2_with fail
  go_step3
  go_wp2_with fail
  go_quiet (fail)
  go_wp2_with fail
  rw [Exit.noGoto_ret]
  go_ret2
  exact ⟨_, rfl, Own.nil _ _, Below.drewN_ (Below.refl _ _) _⟩

set_option maxRecDepth 100000 in
set_option maxHeartbeats 1000000 in
theorem unquote_apart (s : ByteArray) (w : World) (h : 2 ≤ s.size) (hsz : s.size ≤ 1000000) (q : Int) (h34 : q = 34 ∨ q = 39) (hq : ((s[0].toNat : Nat) : Int) = q) (hne : ((s[s.size - 1].toNat : Nat) : Int) ≠ q) : Calls Tryz.prog 172 #[.string s] w (BytesP w (21, [])) := by
  have h' : decide ((s.size : Int) < 2) = false := by simp; omega
  have hp : 0 < s.size := by omega
  have hwr : IntKind.i64.wrap ((s.size : Int) - 1) = (s.size : Int) - 1 := IntWalk.i64_in _ (by omega)
  have hi0 : (0 : Int) ≤ (s.size : Int) - 1 := by omega
  have hi1 : ((s.size : Int) - 1).toNat = s.size - 1 := by omega
  have hi2 : (s.size : Int) - 1 < (s.size : Int) := by omega
  have hi3 : (1 : Int) ≤ (s.size : Int) := by omega
  have hl1 : (((s[s.size - 1].toNat : Nat) : Int) != q) = true := by simpa using hne
  have hl2 : (((s[s.size - 1].toNat : Nat) : Int) == q) = false := by simpa using hne
  clear hne
  rcases h34 with rfl | rfl
  all_goals
    go_enter Tryz.func172, Tryz.ntmps172
    go_wp2_with fail
    go_step3
    go_wp2_with fail
    go_quiet (fail)
    go_wp2_with fail
    rw [Exit.noGoto_ret]
    go_ret2
    exact ⟨_, rfl, Own.nil _ _, Below.drewN_ (Below.refl _ _) _⟩
end
section
open Go.RowKit
set_option linter.unusedVariables false
set_option linter.unusedSimpArgs false

theorem MapAt.below {w w' : World} {b B : Nat} {xs : List (Int × Value)} (h : MapAt w b xs) (hb : Below B w w') (hB : b < B) : MapAt w' b xs := by
  obtain ⟨es, cl, h1, h2⟩ := h
  exact ⟨es, cl, by rw [hb.block b hB]; exact h1, h2⟩

/-- What holds at a part's head: r is left, acc has been read. -/
structure UqR (w1 : World) (b base : Nat) (q : Int) (K : Option (List UInt8)) (r : ByteArray) (acc : List UInt8) (v : Value) (wr : World) (top : Nat) : Prop where
  fin : ∃ k, r.size ≤ k ∧ K = (uqF q k r.data.toList).map (acc ++ ·)
  own : Own wr base v acc
  bel : Below base w1 wr
  map_ : MapAt wr b escs
  len : acc.length + 4 * r.size ≤ top

theorem UqR.nil {w1 wr : World} {b base top : Nat} {q : Int} {K : Option (List UInt8)} {r : ByteArray} {acc : List UInt8} {v : Value} (h : UqR w1 b base q K r acc v wr top) (h0 : r.size = 0) : K = some acc := by
  obtain ⟨k, _, hk⟩ := h.fin
  have hl : r.data.toList = [] := List.eq_nil_of_length_eq_zero (by simpa using h0)
  rw [hl] at hk
  rw [hk]
  cases k <;> simp [uqF]
theorem UqR.cons {w1 wr : World} {b base top : Nat} {q : Int} {K : Option (List UInt8)} {r : ByteArray} {acc : List UInt8} {v : Value} (h : UqR w1 b base q K r acc v wr top) (hp : 0 < r.size) :
    ∃ k, r.size ≤ k + 1 ∧ K = (if ((r[0].toNat : Nat) : Int) < 32 ∨ ((r[0].toNat : Nat) : Int) = q then none else if ((r[0].toNat : Nat) : Int) ≠ 92 then (uqF q k (r.data.toList.drop 1)).map (r[0] :: ·)
      else if (escL (r.data.toList.drop 1)).2 = 0 then none else (uqF q k ((r.data.toList.drop 1).drop (escL (r.data.toList.drop 1)).2)).map ((escL (r.data.toList.drop 1)).1 ++ ·)).map (acc ++ ·) := by
  obtain ⟨k, h1, hk⟩ := h.fin
  have hc : r.data.toList = r[0] :: r.data.toList.drop 1 := by simpa using drop_at r 0 hp
  obtain ⟨k', rfl⟩ : ∃ k', k = k' + 1 := ⟨k - 1, by omega⟩
  refine ⟨k', h1, ?_⟩
  rw [hk, hc, uqF]
  simp
theorem escN_len (x : Esc) (q : Int × Nat) : (escN x q).1.length ≤ 4 := by
  unfold escN
  repeat' split
  all_goals first | simp | skip
  have := (Lib.encodeRuneZ_length q.1).2; simpa [enc_bytes] using this
theorem escL_len (l : List UInt8) : (escL l).1.length ≤ 4 := by
  unfold escL
  split
  · simp
  · split
    · simp
    · unfold escX
      split
      · simp
      · exact escN_len _ _
theorem escL_le (l : List UInt8) : (escL l).2 ≤ l.length := by
  cases l with
  | nil => simp [escL]
  | cons c r =>
    rw [escL]
    cases hx : lookT escT c.toNat with
    | none => simp
    | some x =>
      simp only
      have hf := esc_fine _ _ hx
      unfold escX
      by_cases h0 : x.base = 0
      · rw [if_pos h0]; simp
      · rw [if_neg h0]
        obtain ⟨⟨N, C⟩, hN⟩ : ∃ q, nmF x.base x.most 0 ((c :: r).drop x.skip) = q := ⟨_, rfl⟩
        have := nm_fine (by omega) hf.2.2.2 hN
        rw [hN]
        have hl : x.skip + C ≤ (c :: r).length := by
          have h1 := this.2.2.2
          have h2 := hf.2.2.1
          simp only [List.length_drop, List.length_cons] at h1 ⊢
          omega
        unfold escN
        repeat' split
        all_goals first | exact hl | simp

theorem UqR.plain {w1 wr wr' : World} {b base top : Nat} {q : Int} {K : Option (List UInt8)} {r : ByteArray} {acc : List UInt8} {v v' : Value} (h : UqR w1 b base q K r acc v wr top) (hp : 0 < r.size) (hb : b < base)
    (h1 : ¬ ((r[0].toNat : Nat) : Int) < 32) (h2 : ((r[0].toNat : Nat) : Int) ≠ q) (h3 : ((r[0].toNat : Nat) : Int) ≠ 92) (ho : Own wr' base v' (acc ++ [UInt8.ofNat ((r[0].toNat : Nat) : Int).toNat])) (hbl : Below base wr wr') :
    UqR w1 b base q K (r.extract 1 r.size) (acc ++ [r[0]]) v' wr' top := by
  obtain ⟨k, hk, hK⟩ := h.cons hp
  rw [if_neg (by omega), if_pos h3] at hK
  refine ⟨⟨k, by simp [ByteArray.size_extract]; omega, ?_⟩, ?_, h.bel.trans hbl, h.map_.below hbl hb, ?_⟩
  · rw [Lib.extract_to_end, hK, Option.map_map]
    congr 1
    funext z
    simp
  · have e : UInt8.ofNat ((r[0].toNat : Nat) : Int).toNat = r[0] := by simp
    rw [e] at ho
    exact ho
  · have := h.len
    simp [ByteArray.size_extract]
    omega
theorem UqR.esc {w1 wr wr' : World} {b base top : Nat} {q : Int} {K : Option (List UInt8)} {r : ByteArray} {acc : List UInt8} {v v' : Value} (h : UqR w1 b base q K r acc v wr top) (hp : 0 < r.size) (hb : b < base)
    (h2 : ((r[0].toNat : Nat) : Int) ≠ q) (h3 : ((r[0].toNat : Nat) : Int) = 92) {m : Nat} {bs : List UInt8} (hm : escL (r.extract 1 r.size).data.toList = (bs, m)) (hm0 : m ≠ 0) (ho : Own wr' base v' (acc ++ bs)) (hbl : Below base wr wr') :
    1 + m ≤ r.size ∧ UqR w1 b base q K (r.extract (1 + m) r.size) (acc ++ bs) v' wr' top := by
  obtain ⟨k, hk, hK⟩ := h.cons hp
  rw [Lib.extract_to_end] at hm
  have hle := escL_le (r.data.toList.drop 1)
  have hl4 := escL_len (r.data.toList.drop 1)
  rw [hm] at hle hl4
  simp only [List.length_drop, Array.length_toList, ByteArray.size_data] at hle hl4
  rw [if_neg (by omega), if_neg (by omega), hm, if_neg hm0] at hK
  refine ⟨by omega, ⟨⟨k, by simp [ByteArray.size_extract]; omega, ?_⟩, ho, h.bel.trans hbl, h.map_.below hbl hb, ?_⟩⟩
  · rw [Lib.extract_to_end, hK, Option.map_map, List.drop_drop]
    congr 1
    funext z
    simp
  · have := h.len
    simp [ByteArray.size_extract]
    omega
theorem UqR.bad {w1 wr : World} {b base top : Nat} {q : Int} {K : Option (List UInt8)} {r : ByteArray} {acc : List UInt8} {v : Value} (h : UqR w1 b base q K r acc v wr top) (hp : 0 < r.size)
    (h1 : ((r[0].toNat : Nat) : Int) < 32 ∨ ((r[0].toNat : Nat) : Int) = q ∨ (((r[0].toNat : Nat) : Int) = 92 ∧ (escL (r.extract 1 r.size).data.toList).2 = 0)) : K = none := by
  obtain ⟨k, hk, hK⟩ := h.cons hp
  rw [Lib.extract_to_end] at h1
  rw [hK]
  rcases h1 with h1 | h1 | ⟨h1, h2⟩
  · rw [if_pos (.inl h1)]; rfl
  · rw [if_pos (.inr h1)]; rfl
  · split
    · rfl
    · simp [h1, h2]
end
section
open Go.RowKit
open Go.Lib (byteCells)
set_option linter.unusedVariables false
set_option linter.unusedSimpArgs false

theorem MapAt.lt {w : World} {b : Nat} {xs : List (Int × Value)} (h : MapAt w b xs) : b < w.heap.size := by
  obtain ⟨es, cl, h1, _⟩ := h
  rcases Nat.lt_or_ge b w.heap.size with hlt | hge
  · exact hlt
  · rw [Array.getElem?_eq_none hge] at h1; cases h1

theorem UqR.done {w w1 wr : World} {b base top : Nat} {q : Int} {K : Option (List UInt8)} {r : ByteArray} {acc : List UInt8} {v : Value} (h : UqR w1 b base q K r acc v wr top) (hb : Below w.heap.size w w1) (hw : w.heap.size ≤ base) (h0 : r.size = 0) : BytesP w (ansR K) (.returned (.tuple #[v, .int .i64 0])) wr := by
  rw [h.nil h0]
  exact ⟨_, rfl, h.own.base_ hw, hb.trans (h.bel.mono hw)⟩
theorem UqR.fails {w w1 wr wx : World} {b base top : Nat} {q : Int} {K : Option (List UInt8)} {r : ByteArray} {acc : List UInt8} {v : Value} (h : UqR w1 b base q K r acc v wr top) (hb : Below w.heap.size w w1) (hw : w.heap.size ≤ base) (hx : Below base wr wx) (hK : K = none) : BytesP w (ansR K) (.returned (.tuple #[.slice none 0 0, .int .i64 21])) wx := by
  rw [hK]
  exact ⟨_, rfl, Own.nil _ _, hb.trans ((h.bel.trans hx).mono hw)⟩

set_option maxRecDepth 100000 in
set_option maxHeartbeats 1000000 in
theorem unquote_body (s : ByteArray) (w : World) (h : 2 ≤ s.size) (hsz : s.size ≤ 1000000) (q : Int) (h34 : q = 34 ∨ q = 39) (hq : ((s[0].toNat : Nat) : Int) = q) (hl : ((s[s.size - 1].toNat : Nat) : Int) = q) :
    Calls Tryz.prog 172 #[.string s] w (BytesP w (ansR (uqF q s.size ((s.data.toList.drop 1).take (s.size - 2))))) := by
  obtain ⟨i0, hi0, hz0, hz1, hz2⟩ := info_parts Tryz.info5k
  have h' : decide ((s.size : Int) < 2) = false := by simp; omega
  have hp : 0 < s.size := by omega
  have hwr : IntKind.i64.wrap ((s.size : Int) - 1) = (s.size : Int) - 1 := IntWalk.i64_in _ (by omega)
  have j0 : (0 : Int) ≤ (s.size : Int) - 1 := by omega
  have j1 : ((s.size : Int) - 1).toNat = s.size - 1 := by omega
  have j2 : (s.size : Int) - 1 < (s.size : Int) := by omega
  have j3 : (1 : Int) ≤ (s.size : Int) := by omega
  have j4 : (1 : Int) ≤ (s.size : Int) - 1 := by omega
  have j5 : (s.size : Int) - 1 ≤ (s.size : Int) := by omega
  have hes : ∃ B, ∀ W : World, W.heap = w.heap → Calls Tryz.prog 197 #[] W fun e w' => e = .returned (.map (some B)) ∧ (MapAt w' B escs ∧ Below w.heap.size W w' ∧ B < w'.heap.size) := ⟨w.heap.size + 1 + 1, fun W hW => by
    refine (escapes_any W).mono fun e w' hh => ?_
    rw [hW] at hh
    exact ⟨hh.1, hh.2.1, hh.2.2, hh.2.1.lt⟩⟩
  obtain ⟨B, hes⟩ := hes
  have HES := Lib.hid hes
  obtain ⟨K, hK⟩ : ∃ K, K = uqF q s.size ((s.data.toList.drop 1).take (s.size - 2)) := ⟨_, rfl⟩
  rw [← hK]
  have HK := Lib.hid hK
  have hx1 : (s.extract 1 (s.size - 1)).data.toList = (s.data.toList.drop 1).take (s.size - 2) := by
    rw [show s.size - 2 = s.size - 1 - 1 by omega]
    simp [ByteArray.data_extract, Array.toList_extract, List.extract_eq_take_drop]
  have hx2 : (s.extract 1 (s.size - 1)).size + 2 = s.size := by
    simp [ByteArray.size_extract]; omega
  have HX := Lib.hid (And.intro hx1 hx2)
  clear hx1 hx2
  clear hK hes
  rcases h34 with rfl | rfl
  · go_enter Tryz.func172, Tryz.ntmps172
    go_wp2_with fail
    go_step3
    go_wp2_with fail
    go_quiet (fail)
    go_wp2_with fail
    go_quiet (fail)
    go_wp2_with fail
    refine (HES.out _ (by rfl)).mono ?_
    rintro e w1 ⟨rfl, H1⟩
    have HW := Lib.hid H1
    have hs1 : w.heap.size ≤ w1.heap.size := H1.2.1.size
    have hr0 : (s.extract 1 (s.size - 1)).size ≤ 1000000 := by have := HX.out.2; omega
    have HB := Lib.hid ((Below.drewN_ (Below.refl w.heap.size w) _).trans H1.2.1)
    clear H1
    generalize s.extract 1 (s.size - 1) = r0 at *
    go_wp2_with (at_make; refine wpList_make_own _ rfl _ _ 165 rfl w1.heap.size 5 i0 (.int .u8 0) 1 Tryz.underlying165 hi0 hz0 hz1 .i64 .i64 _ r0.size rfl rfl (by omega) (by rw [hz2]; omega) (by unfold maxLen; omega) (Nat.le_refl _) ?_; intro w2 hown2 hgrow2)
    have hu : UqR w1 B w1.heap.size 34 K r0 [] (.slice (some ⟨w1.heap.size, 0, none⟩) 0 r0.size) w2 (4 * s.size) := by
      refine ⟨⟨s.size, by have := HX.out.2; omega, ?_⟩, hown2, (Below.refl _ _).grown hgrow2 (Nat.le_refl _) (fun g e => by cases e), HW.out.1.below ((Below.refl _ _).grown hgrow2 (Nat.le_refl _) (fun g e => by cases e)) HW.out.2.2, by have := HX.out.2; simp; omega⟩
      rw [HX.out.1, HK.out]
      simp
    have HU := Lib.hid hu
    clear hu hown2 hgrow2
    go_step3
    go_wp2_with fail
    go_loopg [5, 7] r0.size (fun g s5 v wr => ∃ (r : ByteArray) (acc : List UInt8), s5 = .string r ∧ r.size ≤ g ∧ UqR w1 B w1.heap.size 34 K r acc v wr (4 * s.size))
    case atStart => exact ⟨r0, [], rfl, Nat.le_refl _, HU.out⟩
    case round =>
      obtain ⟨r, acc, rfl, hrg, hrel⟩ := hrel
      clear HU HX HK
      have HR := Lib.hid hrel
      have hln : acc.length + 4 * r.size ≤ 4000000 := by have := hrel.len; omega
      have hb0 := hrel.bel.size
      rcases Nat.eq_zero_or_pos r.size with h0 | hrp
      · have hn := (str_nil h0).1
        have hn2 := (str_nil h0).2
        clear hrel
        go_wp2_with fail
        try rw [Exit.noGoto_ret]
        go_ret2
        exact HR.out.done HB.out hs1 h0
      · have e1 := (str_ne hrp).1
        have e2 := (str_ne hrp).2
        have hc0 := r[0].toNat_lt
        have hone : (0 : Int) ≤ 1 := by omega
        have hone1 : (1 : Int) ≤ (r.size : Int) := by omega
        by_cases c1 : ((r[0].toNat : Nat) : Int) < 32
        · have HK := Lib.hid (hrel.bad hrp (.inl c1))
          clear hrel
          go_wp2_with fail
          try rw [Exit.noGoto_ret]
          go_ret2
          exact HR.out.fails HB.out hs1 (Below.refl _ _) HK.out
        · by_cases c2 : ((r[0].toNat : Nat) : Int) = 34
          · have HK := Lib.hid (hrel.bad hrp (.inr (.inl c2)))
            have c2a : (((r[0].toNat : Nat) : Int) == 34) = true := by simpa using c2
            clear hrel c2
            go_wp2_with fail
            try rw [Exit.noGoto_ret]
            go_ret2
            exact HR.out.fails HB.out hs1 (Below.refl _ _) HK.out
          · have c2a : (((r[0].toNat : Nat) : Int) == 34) = false := by simpa using c2
            have C2 := Lib.hid c2
            clear c2
            by_cases c3 : ((r[0].toNat : Nat) : Int) = 92
            · have c3a : (((r[0].toNat : Nat) : Int) == 92) = true := by simpa using c3
              have c3b : (((r[0].toNat : Nat) : Int) != 92) = false := by simpa using c3
              have C3 := Lib.hid c3
              obtain ⟨⟨bs, m⟩, hm⟩ : ∃ x, escL (r.extract 1 r.size).data.toList = x := ⟨_, rfl⟩
              have hcall := escaped_any (r.extract 1 r.size) hrel.own hrel.map_ (by simp [ByteArray.size_extract]; omega) hb0 (by omega)
              rw [hm] at hcall
              have hle := escL_le (r.extract 1 r.size).data.toList
              rw [hm, Lib.extract_to_end] at hle
              simp only [List.length_drop, Array.length_toList, ByteArray.size_data] at hle
              have HC := Lib.hid hcall
              have HM := Lib.hid hm
              clear hcall hm c3
              rcases Nat.eq_zero_or_pos m with hm0 | hm0
              · have HK := Lib.hid (hrel.bad hrp (.inr (.inr ⟨C3.out, by rw [HM.out]; exact hm0⟩)))
                subst hm0
                clear hrel hle
                go_wp2_with fail
                refine HC.out.mono ?_
                rintro e w3 ⟨v3, rfl, ho3, hb3⟩
                go_wp2_with fail
                try rw [Exit.noGoto_ret]
                go_ret2
                exact HR.out.fails HB.out hs1 hb3 HK.out
              · have hmz : (((m : Nat) : Int) == 0) = false := by simp; omega
                have hw1 : IntKind.i64.wrap (1 + (m : Int)) = 1 + (m : Int) := IntWalk.i64_in _ (by omega)
                have m0 : (0 : Int) ≤ 1 + (m : Int) := by omega
                have m1 : (1 + (m : Int)).toNat = 1 + m := by omega
                have m2 : 1 + (m : Int) ≤ (r.size : Int) := by omega
                clear hrel hle
                go_wp2_with fail
                refine HC.out.mono ?_
                rintro e w3 ⟨v3, rfl, ho3, hb3⟩
                go_wp2_with fail
                go_quiet (fail)
                go_wp2_with fail
                go_roundg (gk - 1)
                case measure => omega
                case rel =>
                  have hst := HR.out.esc hrp HW.out.2.2 C2.out C3.out HM.out (by omega) (ho3.drewN nq) (Below.drewN_ hb3 nq)
                  exact ⟨_, _, rfl, by have := hst.1; simp [ByteArray.size_extract]; omega, hst.2⟩
            · have C3 := Lib.hid c3
              have c3a : (((r[0].toNat : Nat) : Int) == 92) = false := by simpa using c3
              have c3b : (((r[0].toNat : Nat) : Int) != 92) = true := by simpa using c3
              have OW := Lib.hid hrel.own
              have hl1 : acc.length + 1 ≤ maxLen := by unfold maxLen; omega
              have hl2 : (acc.length + 1) * 1 ≤ 140737488355328 := by omega
              clear c3 hrel
              go_wp2_with fail
              go_region_held3 (fun _ => True) (trivial)
                ((refine step_append_lies _ (by rfl) _ _ _ (by rfl) w1.heap.size 5 i0 (.int .u8 0) 1 1 Tryz.underlying165 hi0 hz0 hz1 hz2 rfl (by omega) u7 acc.length (byteCells acc) (by rfl) ((OW.out.alloc _).drew)
                    ⟨wr.heap.size, 0, none⟩ 1 1 [.int .u8 ((r[0].toNat : Nat) : Int)] (by rfl) (by rfl) (World.news_of_block (cs := #[.int .u8 ((r[0].toNat : Nat) : Int)]) (t := 5) (fr := (0, 0)) (heap_alloc_new wr _)) (by simp [Value.oneCell'])
                    (by omega) hl1 hl2 (by simp; omega) (wr.heap.size + 1) (by simp) ?_; intro gg cap w3 hown3 hgrow3 hat3 hlt3))
              go_wp2_with fail
              go_roundg (gk - 1)
              case measure => omega
              case rel =>
                have hown4 : Own w3 w1.heap.size (.slice (some ⟨gg, 0, none⟩) (acc.length + 1) cap) (acc ++ [UInt8.ofNat ((r[0].toNat : Nat) : Int).toNat]) := by
                  unfold Own
                  rw [List.length_append, Lib.byteCells_append]
                  have e : byteCells [UInt8.ofNat ((r[0].toNat : Nat) : Int).toNat] = [.int .u8 ((r[0].toNat : Nat) : Int)] := by simp only [byteCells, List.map_cons, List.map_nil]; rw [ofNat_toNat8 (by omega) (by omega)]
                  rw [e]
                  exact hown3
                refine ⟨_, _, rfl, ?_, HR.out.plain hrp HW.out.2.2 (by omega) C2.out C3.out hown4 (Below.grown ((((Below.refl _ _).alloc (Nat.le_refl _) _).drew).mono hb0) hgrow3 (by simp; omega) (fun g e => (OW.out.lt e).1))⟩
                simp [ByteArray.size_extract]; omega
  · go_enter Tryz.func172, Tryz.ntmps172
    go_wp2_with fail
    go_step3
    go_wp2_with fail
    go_quiet (fail)
    go_wp2_with fail
    go_quiet (fail)
    go_wp2_with fail
    refine (HES.out _ (by rfl)).mono ?_
    rintro e w1 ⟨rfl, H1⟩
    have HW := Lib.hid H1
    have hs1 : w.heap.size ≤ w1.heap.size := H1.2.1.size
    have hr0 : (s.extract 1 (s.size - 1)).size ≤ 1000000 := by have := HX.out.2; omega
    have HB := Lib.hid ((Below.drewN_ (Below.refl w.heap.size w) _).trans H1.2.1)
    clear H1
    generalize s.extract 1 (s.size - 1) = r0 at *
    go_wp2_with (at_make; refine wpList_make_own _ rfl _ _ 165 rfl w1.heap.size 5 i0 (.int .u8 0) 1 Tryz.underlying165 hi0 hz0 hz1 .i64 .i64 _ r0.size rfl rfl (by omega) (by rw [hz2]; omega) (by unfold maxLen; omega) (Nat.le_refl _) ?_; intro w2 hown2 hgrow2)
    have hu : UqR w1 B w1.heap.size 39 K r0 [] (.slice (some ⟨w1.heap.size, 0, none⟩) 0 r0.size) w2 (4 * s.size) := by
      refine ⟨⟨s.size, by have := HX.out.2; omega, ?_⟩, hown2, (Below.refl _ _).grown hgrow2 (Nat.le_refl _) (fun g e => by cases e), HW.out.1.below ((Below.refl _ _).grown hgrow2 (Nat.le_refl _) (fun g e => by cases e)) HW.out.2.2, by have := HX.out.2; simp; omega⟩
      rw [HX.out.1, HK.out]
      simp
    have HU := Lib.hid hu
    clear hu hown2 hgrow2
    go_step3
    go_wp2_with fail
    go_loopg [5, 7] r0.size (fun g s5 v wr => ∃ (r : ByteArray) (acc : List UInt8), s5 = .string r ∧ r.size ≤ g ∧ UqR w1 B w1.heap.size 39 K r acc v wr (4 * s.size))
    case atStart => exact ⟨r0, [], rfl, Nat.le_refl _, HU.out⟩
    case round =>
      obtain ⟨r, acc, rfl, hrg, hrel⟩ := hrel
      clear HU HX HK
      have HR := Lib.hid hrel
      have hln : acc.length + 4 * r.size ≤ 4000000 := by have := hrel.len; omega
      have hb0 := hrel.bel.size
      rcases Nat.eq_zero_or_pos r.size with h0 | hrp
      · have hn := (str_nil h0).1
        have hn2 := (str_nil h0).2
        clear hrel
        go_wp2_with fail
        try rw [Exit.noGoto_ret]
        go_ret2
        exact HR.out.done HB.out hs1 h0
      · have e1 := (str_ne hrp).1
        have e2 := (str_ne hrp).2
        have hc0 := r[0].toNat_lt
        have hone : (0 : Int) ≤ 1 := by omega
        have hone1 : (1 : Int) ≤ (r.size : Int) := by omega
        by_cases c1 : ((r[0].toNat : Nat) : Int) < 32
        · have HK := Lib.hid (hrel.bad hrp (.inl c1))
          clear hrel
          go_wp2_with fail
          try rw [Exit.noGoto_ret]
          go_ret2
          exact HR.out.fails HB.out hs1 (Below.refl _ _) HK.out
        · by_cases c2 : ((r[0].toNat : Nat) : Int) = 39
          · have HK := Lib.hid (hrel.bad hrp (.inr (.inl c2)))
            have c2a : (((r[0].toNat : Nat) : Int) == 39) = true := by simpa using c2
            clear hrel c2
            go_wp2_with fail
            try rw [Exit.noGoto_ret]
            go_ret2
            exact HR.out.fails HB.out hs1 (Below.refl _ _) HK.out
          · have c2a : (((r[0].toNat : Nat) : Int) == 39) = false := by simpa using c2
            have C2 := Lib.hid c2
            clear c2
            by_cases c3 : ((r[0].toNat : Nat) : Int) = 92
            · have c3a : (((r[0].toNat : Nat) : Int) == 92) = true := by simpa using c3
              have c3b : (((r[0].toNat : Nat) : Int) != 92) = false := by simpa using c3
              have C3 := Lib.hid c3
              obtain ⟨⟨bs, m⟩, hm⟩ : ∃ x, escL (r.extract 1 r.size).data.toList = x := ⟨_, rfl⟩
              have hcall := escaped_any (r.extract 1 r.size) hrel.own hrel.map_ (by simp [ByteArray.size_extract]; omega) hb0 (by omega)
              rw [hm] at hcall
              have hle := escL_le (r.extract 1 r.size).data.toList
              rw [hm, Lib.extract_to_end] at hle
              simp only [List.length_drop, Array.length_toList, ByteArray.size_data] at hle
              have HC := Lib.hid hcall
              have HM := Lib.hid hm
              clear hcall hm c3
              rcases Nat.eq_zero_or_pos m with hm0 | hm0
              · have HK := Lib.hid (hrel.bad hrp (.inr (.inr ⟨C3.out, by rw [HM.out]; exact hm0⟩)))
                subst hm0
                clear hrel hle
                go_wp2_with fail
                refine HC.out.mono ?_
                rintro e w3 ⟨v3, rfl, ho3, hb3⟩
                go_wp2_with fail
                try rw [Exit.noGoto_ret]
                go_ret2
                exact HR.out.fails HB.out hs1 hb3 HK.out
              · have hmz : (((m : Nat) : Int) == 0) = false := by simp; omega
                have hw1 : IntKind.i64.wrap (1 + (m : Int)) = 1 + (m : Int) := IntWalk.i64_in _ (by omega)
                have m0 : (0 : Int) ≤ 1 + (m : Int) := by omega
                have m1 : (1 + (m : Int)).toNat = 1 + m := by omega
                have m2 : 1 + (m : Int) ≤ (r.size : Int) := by omega
                clear hrel hle
                go_wp2_with fail
                refine HC.out.mono ?_
                rintro e w3 ⟨v3, rfl, ho3, hb3⟩
                go_wp2_with fail
                go_quiet (fail)
                go_wp2_with fail
                go_roundg (gk - 1)
                case measure => omega
                case rel =>
                  have hst := HR.out.esc hrp HW.out.2.2 C2.out C3.out HM.out (by omega) (ho3.drewN nq) (Below.drewN_ hb3 nq)
                  exact ⟨_, _, rfl, by have := hst.1; simp [ByteArray.size_extract]; omega, hst.2⟩
            · have C3 := Lib.hid c3
              have c3a : (((r[0].toNat : Nat) : Int) == 92) = false := by simpa using c3
              have c3b : (((r[0].toNat : Nat) : Int) != 92) = true := by simpa using c3
              have OW := Lib.hid hrel.own
              have hl1 : acc.length + 1 ≤ maxLen := by unfold maxLen; omega
              have hl2 : (acc.length + 1) * 1 ≤ 140737488355328 := by omega
              clear c3 hrel
              go_wp2_with fail
              go_region_held3 (fun _ => True) (trivial)
                ((refine step_append_lies _ (by rfl) _ _ _ (by rfl) w1.heap.size 5 i0 (.int .u8 0) 1 1 Tryz.underlying165 hi0 hz0 hz1 hz2 rfl (by omega) u7 acc.length (byteCells acc) (by rfl) ((OW.out.alloc _).drew)
                    ⟨wr.heap.size, 0, none⟩ 1 1 [.int .u8 ((r[0].toNat : Nat) : Int)] (by rfl) (by rfl) (World.news_of_block (cs := #[.int .u8 ((r[0].toNat : Nat) : Int)]) (t := 5) (fr := (0, 0)) (heap_alloc_new wr _)) (by simp [Value.oneCell'])
                    (by omega) hl1 hl2 (by simp; omega) (wr.heap.size + 1) (by simp) ?_; intro gg cap w3 hown3 hgrow3 hat3 hlt3))
              go_wp2_with fail
              go_roundg (gk - 1)
              case measure => omega
              case rel =>
                have hown4 : Own w3 w1.heap.size (.slice (some ⟨gg, 0, none⟩) (acc.length + 1) cap) (acc ++ [UInt8.ofNat ((r[0].toNat : Nat) : Int).toNat]) := by
                  unfold Own
                  rw [List.length_append, Lib.byteCells_append]
                  have e : byteCells [UInt8.ofNat ((r[0].toNat : Nat) : Int).toNat] = [.int .u8 ((r[0].toNat : Nat) : Int)] := by simp only [byteCells, List.map_cons, List.map_nil]; rw [ofNat_toNat8 (by omega) (by omega)]
                  rw [e]
                  exact hown3
                refine ⟨_, _, rfl, ?_, HR.out.plain hrp HW.out.2.2 (by omega) C2.out C3.out hown4 (Below.grown ((((Below.refl _ _).alloc (Nat.le_refl _) _).drew).mono hb0) hgrow3 (by simp; omega) (fun g e => (OW.out.lt e).1))⟩
                simp [ByteArray.size_extract]; omega

/-- Unquote answers as the chapter says. -/
theorem unquote_any (s : ByteArray) (w : World) (hsz : s.size ≤ 1000000) : Calls Tryz.prog 172 #[.string s] w (BytesP w (ansR (unqL s.data.toList))) := by
  unfold unqL
  have hl : s.data.toList.length = s.size := by simp
  by_cases h2 : s.size < 2
  · rw [if_pos (by omega)]
    exact unquote_short s w h2
  · rw [if_neg (by omega)]
    have hp : 0 < s.size := by omega
    have hh : s.data.toList.headD 0 = s[0] := by
      rw [str_at s 0 hp, List.headD_eq_head?_getD, List.head?_eq_getElem?, List.getElem?_eq_getElem (by omega)]
      rfl
    have hlast : s.data.toList.getD (s.data.toList.length - 1) 0 = s[s.size - 1] := by
      have e : s.data.toList[s.size - 1]? = some (s.data.toList[s.size - 1]'(by omega)) := List.getElem?_eq_getElem (by omega)
      rw [hl, List.getD, e]
      rfl
    rw [hh, hlast]
    by_cases hq : s[0].toNat ≠ 34 ∧ s[0].toNat ≠ 39
    · rw [if_pos hq]
      exact unquote_odd s w (by omega) hsz (by omega) (by omega)
    · rw [if_neg hq]
      have h34 : ((s[0].toNat : Nat) : Int) = 34 ∨ ((s[0].toNat : Nat) : Int) = 39 := by omega
      by_cases he : s[s.size - 1] = s[0]
      · rw [if_neg (by simpa using he), hl]
        exact unquote_body s w (by omega) hsz _ h34 rfl (by rw [he])
      · rw [if_pos he]
        refine unquote_apart s w (by omega) hsz _ h34 rfl fun hc => he ?_
        apply UInt8.toNat_inj.1
        omega
end
end Go.Proofs.YthmdaejlopjjoaaGreatDoor
