/-
  Bytes.
-/
import Derived.Test.YtlckppmggklinaaNext
namespace Go.Proofs.Ytlckppmggklinaa
open Go.RowKit
set_option linter.unusedVariables false

/-- All bytes of records, one behind the other. -/
def rawCat (rs : List Rc) : List UInt8 := rs.flatMap fun r => r.raw
def byR (rs : List Rc) : Nat × List UInt8 := if ∀ r ∈ rs, chkE r = 0 then (if 1048576 < (rawCat rs).length then (5, []) else (0, rawCat rs)) else (2, [])
theorem rawCat_snoc (rs : List Rc) (r : Rc) : rawCat (rs ++ [r]) = rawCat rs ++ r.raw := by simp [rawCat]
theorem take_snoc_of {rs : List Rc} {i : Nat} {r : Rc} (h : rs[i]? = some r) : rs.take (i + 1) = rs.take i ++ [r] := by rw [List.take_add_one, h]; rfl
theorem chk02 (r : Rc) : chkE r = 0 ∨ chkE r = 2 := by
  unfold chkE
  by_cases h1 : (nxR r.raw).1 = 0
  · rw [if_pos h1]
    by_cases h2 : rcEq (nxR r.raw).2.1 r = true
    · rw [if_pos h2]; exact .inl rfl
    · rw [if_neg h2]; exact .inr rfl
  · rw [if_neg h1]; exact .inr rfl
theorem rawCat_take_le (rs : List Rc) (i : Nat) : (rawCat (rs.take i)).length ≤ (rawCat rs).length := by
  have : rawCat rs = rawCat (rs.take i) ++ rawCat (rs.drop i) := by unfold rawCat; rw [← List.flatMap_append, List.take_append_drop]
  rw [this, List.length_append]; omega
theorem rawCat_bound (rs : List Rc) (K : Nat) (h : ∀ r ∈ rs, r.raw.length ≤ K) : (rawCat rs).length ≤ rs.length * K := by
  induction rs with
  | nil => simp [rawCat]
  | cons r rs ih =>
    have h1 := h r (by simp)
    have h2 := ih (fun x hx => h x (by simp [hx]))
    show (r.raw ++ rawCat rs).length ≤ _
    rw [List.length_append, List.length_cons, Nat.add_mul]; omega

def BytesP (w : World) (R : Nat × List UInt8) (e : Ending) (w' : World) : Prop := ∃ v, e = .returned (.tuple #[v, .int .i64 R.1]) ∧ Own w' w.heap.size v R.2 ∧ Below w.heap.size w w'

structure ByRel (w : World) (rs : List Rc) (tot i : Nat) (wr : World) : Prop where
  tot : tot = (rawCat (rs.take i)).length
  ok : ∀ r ∈ rs.take i, chkE r = 0
  bel : Below w.heap.size w wr

theorem by_step {w wr w1 : World} {rs : List Rc} {tot i : Nat} {r : Rc} (h : ByRel w rs tot i wr) (hr : rs[i]? = some r) (hc : chkE r = 0) (hb : Below w.heap.size w w1) : ByRel w rs (tot + r.raw.length) (i + 1) w1 := by
  refine ⟨?_, ?_, hb⟩
  · rw [take_snoc_of hr, rawCat_snoc, List.length_append, h.tot]
  · intro x hx
    rw [take_snoc_of hr, List.mem_append] at hx
    rcases hx with hx | hx
    · exact h.ok x hx
    · simp at hx; subst hx; exact hc
theorem by_bad {rs : List Rc} {i : Nat} {r : Rc} (hr : rs[i]? = some r) (hc : chkE r ≠ 0) : byR rs = (2, []) := by
  unfold byR
  rw [if_neg (fun h => hc (h r (List.mem_of_getElem? hr)))]

theorem by_fine {w wr : World} {rs : List Rc} {tot i n : Nat} (h : ByRel w rs tot i wr) (hn : rs.length = n) (hi : ¬ i < n) : tot = (rawCat rs).length ∧ byR rs = if 1048576 < tot then (5, []) else (0, rawCat rs) := by
  have ht : rs.take i = rs := List.take_of_length_le (by omega)
  have h1 := h.tot
  have h2 := h.ok
  rw [ht] at h1 h2
  refine ⟨h1, ?_⟩
  unfold byR
  rw [if_pos h2, h1]

/-- The second loop: what has been joined. -/
structure By2 (w : World) (rs : List Rc) (v : Value) (i : Nat) (wr : World) : Prop where
  own : Own wr w.heap.size v (rawCat (rs.take i))
  bel : Below w.heap.size w wr

set_option maxRecDepth 100000 in
set_option maxHeartbeats 1000000 in
theorem bytes_any {w : World} {lo hi n c : Nat} {A : Option Addr} {rs : List Rc} (hS : Rs w lo hi A n c rs) (hhi : hi ≤ w.heap.size) (hn : n ≤ 1048576) (hl : ∀ r ∈ rs, r.raw.length ≤ 2147483648) :
    Calls Try.prog 37 #[.slice A n c] w (BytesP w (byR rs)) := by
  have hlen := hS.1
  have htb := rawCat_bound rs _ hl
  have hmul : n * 2147483648 ≤ 1048576 * 2147483648 := Nat.mul_le_mul_right _ hn
  have htot : (rawCat rs).length ≤ 2251799813685248 := by rw [hlen] at htb; omega
  clear htb hmul
  obtain ⟨i0, hi0, hz0, hz1, hz2⟩ := info_parts Try.info5
  have HL := Lib.hid hl
  clear hl
  have HLN := Lib.hid hlen
  clear hlen
  obtain ⟨R, hR⟩ : ∃ R, R = byR rs := ⟨_, rfl⟩
  rw [← hR]
  have HR := Lib.hid hR
  clear hR
  go_enter Try.func37, Try.ntmps37
  go_wp2
  go_loopw [4, 13] (fun t j wr => ∃ tot i : Nat, t = .int .i64 tot ∧ j = .int .i64 i ∧ i ≤ n ∧ tot ≤ 2251799813685248 ∧ ByRel w rs tot i wr) (fun _ j _ => n - (intOf j).toNat)
  case atStart => exact ⟨0, 0, rfl, rfl, by omega, by omega, ⟨by simp [rawCat], by simp, Below.refl _ _⟩⟩
  case round =>
    obtain ⟨tot, i, rfl, rfl, hin, htt, hrel⟩ := hrel
    have HREL := Lib.hid hrel
    by_cases hlt : i < n
    · have hS' := hS.kept (.of_below hrel.bel hhi)
      obtain ⟨b, o, r, B, m, d, B', m', d', rfl, hbh, hr, hsb, hsw, g0, g1, g2, g3, g4⟩ := hS'.at_ hlt
      have hwz := hrel.bel.size
      have hck := check_any (r := r) (hsb.alloc (by omega) (.cells #[.int .i64 r.num, .int .i64 r.wire, .int .u64 r.n, .slice B m d, .slice B' m' d'] 34)) (hsw.alloc (by omega) _) (by simp <;> omega) (by
        have := HL.out r (List.mem_of_getElem? hr); have := hsw.len; omega)
      have HRR := Lib.hid hr
      have hml : m' = r.raw.length := hsw.len.symm
      have hi0' : (0 : Int) ≤ (i : Int) := by omega
      have hi1' : (i : Int) < (n : Int) := by omega
      have hbel := hrel.bel
      clear hr hsb hsw hS' hrel
      by_cases hc : chkE r = 0
      · rw [hc] at hck
        have HCK := Lib.hid hck
        have hmb : m' ≤ 2147483648 := by
          have := HL.out r (List.mem_of_getElem? HRR.out); omega
        have HML := Lib.hid hml
        have HC := Lib.hid hc
        clear hck hml hc
        go_wp2_with fail
        refine HCK.out.mono ?_
        rintro e w1 ⟨rfl, hb1⟩
        have hs1 := hb1.size
        simp at hs1
        have k4 : w1.cell? ⟨wr.heap.size, 4, none⟩ = some (.slice B' m' d') := ((Blk.new wr 34 #[.int .i64 r.num, .int .i64 r.wire, .int .u64 r.n, .slice B m d, .slice B' m' d']).below hb1 (by simp)).cell 4
        go_wp2
        have hst := by_step HREL.out HRR.out HC.out ((hbel.alloc (by omega) _).trans (hb1.mono (by simp <;> omega)))
        rw [← HML.out] at hst
        refine ⟨⟨tot + m', i + 1, by go_num, by go_num, by omega, ?_, hst⟩, by simp [intOf]; omega⟩
        have := hst.tot
        have := rawCat_take_le rs (i + 1)
        omega
      · have h2 : chkE r = 2 := (chk02 r).resolve_left hc
        have hbad := by_bad HRR.out hc
        rw [h2] at hck
        have HCK := Lib.hid hck
        have HBD := Lib.hid hbad
        clear hck hml hc h2 hbad
        go_wp2_with fail
        refine HCK.out.mono ?_
        rintro e w1 ⟨rfl, hb1⟩
        go_wp2
        go_ret2
        rw [HR.out, HBD.out]
        exact ⟨_, rfl, Own.nil _ _, (hbel.alloc hbel.size _).trans (hb1.mono (by have := hbel.size; simp <;> omega))⟩
    · obtain ⟨ht, hf⟩ := by_fine hrel HLN.out hlt
      have hbel := hrel.bel
      have HHF := Lib.hid (HR.out.trans hf)
      have HHT := Lib.hid ht
      clear hrel HREL hf ht
      by_cases hbig : 1048576 < tot
      · have hb' : (1048576 : Int) < (tot : Int) := by omega
        go_wp2
        go_ret2
        rw [HHF.out, if_pos hbig]
        exact ⟨_, rfl, Own.nil _ _, hbel⟩
      · have hb' : ¬ (1048576 : Int) < (tot : Int) := by omega
        go_wp2_with (at_make; refine wpList_make_own _ rfl _ _ 22 rfl w.heap.size 5 i0 (.int .u8 0) 1 Try.underlying22 hi0 hz0 hz1 .i64 .i64 _ tot rfl rfl (by omega) (by rw [hz2]; omega) (by unfold maxLen; omega) hbel.size ?_; intro w0 hown0 hgrow0)
        have hB0 : Below w.heap.size w w0 := Below.grown hbel hgrow0 hbel.size (fun _ h => by cases h)
        have hst : By2 w rs (.slice (some ⟨wr.heap.size, 0, none⟩) 0 tot) 0 w0 := ⟨hown0, hB0⟩
        clear hown0 hgrow0 hB0 hbel
        go_loopw [8, 34] (fun v j wr => ∃ i : Nat, j = .int .i64 i ∧ i ≤ n ∧ By2 w rs v i wr) (fun _ j _ => n - (intOf j).toNat)
        case atStart => exact ⟨0, rfl, by omega, hst⟩
        case round =>
          obtain ⟨i, rfl, hin, hrel⟩ := hrel
          clear hst
          by_cases hlt : i < n
          · have hS' := hS.kept (.of_below hrel.bel hhi)
            obtain ⟨b, o, r, B, m, d, B', m', d', rfl, hbh, hr, hsb, hsw, g0, g1, g2, g3, g4⟩ := hS'.at_ hlt
            have hwz := hrel.bel.size
            have hsw2 := hsw.alloc (by omega) (.cells #[.int .i64 r.num, .int .i64 r.wire, .int .u64 r.n, .slice B m d, .slice B' m' d'] 34)
            have HRR := Lib.hid hr
            have hi0' : (0 : Int) ≤ (i : Int) := by omega
            have hi1' : (i : Int) < (n : Int) := by omega
            have hbel := hrel.bel
            have hown := hrel.own
            have hle := rawCat_take_le rs i
            have htl : (rawCat rs).length ≤ 1048576 := by have := HHT.out; omega
            have hm' : m' ≤ 2147483648 := by
              have := HL.out r (List.mem_of_getElem? hr); have := hsw.len; omega
            clear hr hsb hsw hS' hrel
            go_wp2_with (at_builtin; refine wpList_append_bs _ rfl _ _ 22 rfl i0 Try.underlying22 hi0 hz0 hz1 hz2 w.heap.size _ _ rfl (hown.alloc _) _ _ _ _ _ _ rfl hsw2 (by omega) (by simp <;> omega) ?_; intro v1 w1 hown1 hgrow1)
            go_roundw
            case rel =>
              refine ⟨i + 1, by go_num, by omega, ?_, ?_⟩
              · rw [take_snoc_of HRR.out, rawCat_snoc]; exact hown1
              · exact (hbel.alloc hwz _).trans (hgrow1.below (by simp <;> omega) (fun g hg => (hown.lt hg).1))
            case measure => simp [intOf]; omega
          · go_wp2
            go_ret2
            rw [HHF.out, if_neg hbig]
            have hown := hrel.own
            rw [List.take_of_length_le (by have := HLN.out; omega)] at hown
            exact ⟨_, rfl, hown, hrel.bel⟩
end Go.Proofs.Ytlckppmggklinaa
