/-
  Unquote: the parts.
-/
import Derived.Test.YtoineheocipmaaaGreatDoorUnq
namespace Go.Proofs.YtoineheocipmaaaGreatDoor
open Go.RowKit
set_option linter.unusedVariables false
set_option linter.unusedSimpArgs false

theorem MapAt.below {w w' : World} {b B : Nat} {xs : List (Int × Value)} (h : MapAt w b xs) (hb : Below B w w') (hB : b < B) : MapAt w' b xs := by
  obtain ⟨es, cl, h1, h2⟩ := h
  exact ⟨es, cl, by rw [hb.block b hB]; exact h1, h2⟩

/-- What holds at a part's head: r is left, acc has been read. -/
structure UqR (w1 : World) (b base : Nat) (q : Int) (K : Option (List UInt8)) (r : ByteArray) (acc : List UInt8) (v : Value) (wr : World) (top : Nat) : Prop where
  fin : ∃ k, r.size ≤ k ∧ K = (uqF q k r.data.toList).map (acc ++ ·)
  own : Own wr base v acc
  bel : Below base w1 wr
  map_ : MapAt wr b escs
  len : acc.length + 4 * r.size ≤ top

theorem UqR.nil {w1 wr : World} {b base top : Nat} {q : Int} {K : Option (List UInt8)} {r : ByteArray} {acc : List UInt8} {v : Value} (h : UqR w1 b base q K r acc v wr top) (h0 : r.size = 0) : K = some acc := by
  obtain ⟨k, _, hk⟩ := h.fin
  have hl : r.data.toList = [] := List.eq_nil_of_length_eq_zero (by simpa using h0)
  rw [hl] at hk
  rw [hk]
  cases k <;> simp [uqF]
theorem UqR.cons {w1 wr : World} {b base top : Nat} {q : Int} {K : Option (List UInt8)} {r : ByteArray} {acc : List UInt8} {v : Value} (h : UqR w1 b base q K r acc v wr top) (hp : 0 < r.size) :
    ∃ k, r.size ≤ k + 1 ∧ K = (if ((r[0].toNat : Nat) : Int) < 32 ∨ ((r[0].toNat : Nat) : Int) = q then none else if ((r[0].toNat : Nat) : Int) ≠ 92 then (uqF q k (r.data.toList.drop 1)).map (r[0] :: ·)
      else if (escL (r.data.toList.drop 1)).2 = 0 then none else (uqF q k ((r.data.toList.drop 1).drop (escL (r.data.toList.drop 1)).2)).map ((escL (r.data.toList.drop 1)).1 ++ ·)).map (acc ++ ·) := by
  obtain ⟨k, h1, hk⟩ := h.fin
  have hc : r.data.toList = r[0] :: r.data.toList.drop 1 := by simpa using drop_at r 0 hp
  obtain ⟨k', rfl⟩ : ∃ k', k = k' + 1 := ⟨k - 1, by omega⟩
  refine ⟨k', h1, ?_⟩
  rw [hk, hc, uqF]
  simp
theorem escN_len (x : Esc) (q : Int × Nat) : (escN x q).1.length ≤ 4 := by
  unfold escN
  repeat' split
  all_goals first | simp | skip
  have := (Lib.encodeRuneZ_length q.1).2; simpa [enc_bytes] using this
theorem escL_len (l : List UInt8) : (escL l).1.length ≤ 4 := by
  unfold escL
  split
  · simp
  · split
    · simp
    · unfold escX
      split
      · simp
      · exact escN_len _ _
theorem escL_le (l : List UInt8) : (escL l).2 ≤ l.length := by
  cases l with
  | nil => simp [escL]
  | cons c r =>
    rw [escL]
    cases hx : lookT escT c.toNat with
    | none => simp
    | some x =>
      simp only
      have hf := esc_fine _ _ hx
      unfold escX
      by_cases h0 : x.base = 0
      · rw [if_pos h0]; simp
      · rw [if_neg h0]
        obtain ⟨⟨N, C⟩, hN⟩ : ∃ q, nmF x.base x.most 0 ((c :: r).drop x.skip) = q := ⟨_, rfl⟩
        have := nm_fine (by omega) hf.2.2.2 hN
        rw [hN]
        have hl : x.skip + C ≤ (c :: r).length := by
          have h1 := this.2.2.2
          have h2 := hf.2.2.1
          simp only [List.length_drop, List.length_cons] at h1 ⊢
          omega
        unfold escN
        repeat' split
        all_goals first | exact hl | simp

theorem UqR.plain {w1 wr wr' : World} {b base top : Nat} {q : Int} {K : Option (List UInt8)} {r : ByteArray} {acc : List UInt8} {v v' : Value} (h : UqR w1 b base q K r acc v wr top) (hp : 0 < r.size) (hb : b < base)
    (h1 : ¬ ((r[0].toNat : Nat) : Int) < 32) (h2 : ((r[0].toNat : Nat) : Int) ≠ q) (h3 : ((r[0].toNat : Nat) : Int) ≠ 92) (ho : Own wr' base v' (acc ++ [UInt8.ofNat ((r[0].toNat : Nat) : Int).toNat])) (hbl : Below base wr wr') :
    UqR w1 b base q K (r.extract 1 r.size) (acc ++ [r[0]]) v' wr' top := by
  obtain ⟨k, hk, hK⟩ := h.cons hp
  rw [if_neg (by omega), if_pos h3] at hK
  refine ⟨⟨k, by simp [ByteArray.size_extract]; omega, ?_⟩, ?_, h.bel.trans hbl, h.map_.below hbl hb, ?_⟩
  · rw [Lib.extract_to_end, hK, Option.map_map]
    congr 1
    funext z
    simp
  · have e : UInt8.ofNat ((r[0].toNat : Nat) : Int).toNat = r[0] := by simp
    rw [e] at ho
    exact ho
  · have := h.len
    simp [ByteArray.size_extract]
    omega
theorem UqR.esc {w1 wr wr' : World} {b base top : Nat} {q : Int} {K : Option (List UInt8)} {r : ByteArray} {acc : List UInt8} {v v' : Value} (h : UqR w1 b base q K r acc v wr top) (hp : 0 < r.size) (hb : b < base)
    (h2 : ((r[0].toNat : Nat) : Int) ≠ q) (h3 : ((r[0].toNat : Nat) : Int) = 92) {m : Nat} {bs : List UInt8} (hm : escL (r.extract 1 r.size).data.toList = (bs, m)) (hm0 : m ≠ 0) (ho : Own wr' base v' (acc ++ bs)) (hbl : Below base wr wr') :
    1 + m ≤ r.size ∧ UqR w1 b base q K (r.extract (1 + m) r.size) (acc ++ bs) v' wr' top := by
  obtain ⟨k, hk, hK⟩ := h.cons hp
  rw [Lib.extract_to_end] at hm
  have hle := escL_le (r.data.toList.drop 1)
  have hl4 := escL_len (r.data.toList.drop 1)
  rw [hm] at hle hl4
  simp only [List.length_drop, Array.length_toList, ByteArray.size_data] at hle hl4
  rw [if_neg (by omega), if_neg (by omega), hm, if_neg hm0] at hK
  refine ⟨by omega, ⟨⟨k, by simp [ByteArray.size_extract]; omega, ?_⟩, ho, h.bel.trans hbl, h.map_.below hbl hb, ?_⟩⟩
  · rw [Lib.extract_to_end, hK, Option.map_map, List.drop_drop]
    congr 1
    funext z
    simp
  · have := h.len
    simp [ByteArray.size_extract]
    omega
theorem UqR.bad {w1 wr : World} {b base top : Nat} {q : Int} {K : Option (List UInt8)} {r : ByteArray} {acc : List UInt8} {v : Value} (h : UqR w1 b base q K r acc v wr top) (hp : 0 < r.size)
    (h1 : ((r[0].toNat : Nat) : Int) < 32 ∨ ((r[0].toNat : Nat) : Int) = q ∨ (((r[0].toNat : Nat) : Int) = 92 ∧ (escL (r.extract 1 r.size).data.toList).2 = 0)) : K = none := by
  obtain ⟨k, hk, hK⟩ := h.cons hp
  rw [Lib.extract_to_end] at h1
  rw [hK]
  rcases h1 with h1 | h1 | ⟨h1, h2⟩
  · rw [if_pos (.inl h1)]; rfl
  · rw [if_pos (.inr h1)]; rfl
  · split
    · rfl
    · simp [h1, h2]
end Go.Proofs.YtoineheocipmaaaGreatDoor
