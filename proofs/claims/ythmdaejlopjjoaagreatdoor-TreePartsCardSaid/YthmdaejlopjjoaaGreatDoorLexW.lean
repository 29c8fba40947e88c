/-
  lex: Words.
-/
import Derived.Test.YthmdaejlopjjoaaGreatDoorLxL
import Derived.Deep.RegionLaw
import Derived.WalkMore
namespace Go.Proofs.YthmdaejlopjjoaaGreatDoor
open Go.RowKit
set_option linter.unusedVariables false
set_option linter.unusedSimpArgs false

section
variable {P : Program} (w : World)
theorem wp_append_w {o : Oper} {a : Act} {K : Act → World → Prop} {Q : Exit → Act → World → Prop} (s x : Operand) (t : TypeId)
    (ho : o.op = .call { callee := .builtin .append, args := #[s, x], argTypes := #[t, t] }) (i : TypeInfo)
    (ht : P.underlying t = some (.slice 73)) (hi : P.info? 73 = some i) (hz : i.zero = some (.agg #[.int .i64 0, .int .i64 0, .string ⟨#[]⟩, .int .i64 0])) (hsize : i.size = 4) (hby : i.bytes = 40)
    (base : Nat) (v : Value) (xs : List Wd) (hs : a.eval s = v) (hown : OwnW w base v xs) (B : Nat) (y : Wd) (hx : a.eval x = .slice (some ⟨B, 0, none⟩) 1 1) (hB : Blk w B 73 #[.int .i64 y.k, .int .i64 y.p, .string y.t, .int .i64 y.n])
    (hlen : xs.length ≤ 1073741824) (hbase : base ≤ w.heap.size)
    (h : ∀ v' w', OwnW w' base v' (xs ++ [y]) → Grew w w' v v' → K (a.put o.dst v') w') : o.wp P a w K Q := by
  obtain ⟨v', w', hrun, h2, h3⟩ := run_append_w (P := P) t o.type i ht hi hz hsize hby hown y hB hlen hbase
  unfold Oper.wp execOp
  simp only [ho, resolve, invoke, builtin, Sem.run_bind, Sem.run_pure, Result.andThen_ok, List.map_toArray, List.map_cons, List.map_nil, hs, hx, hrun]
  exact h v' w' h2 h3
theorem wpList_append_w {ops : Array Oper} {rest : List Oper} {o : Oper} {a : Act} {Q : Exit → Act → World → Prop} (hgd : o.guard = none) (s x : Operand) (t : TypeId)
    (ho : o.op = .call { callee := .builtin .append, args := #[s, x], argTypes := #[t, t] }) (i : TypeInfo)
    (ht : P.underlying t = some (.slice 73)) (hi : P.info? 73 = some i) (hz : i.zero = some (.agg #[.int .i64 0, .int .i64 0, .string ⟨#[]⟩, .int .i64 0])) (hsize : i.size = 4) (hby : i.bytes = 40)
    (base : Nat) (v : Value) (xs : List Wd) (hs : a.eval s = v) (hown : OwnW w base v xs) (B : Nat) (y : Wd) (hx : a.eval x = .slice (some ⟨B, 0, none⟩) 1 1) (hB : Blk w B 73 #[.int .i64 y.k, .int .i64 y.p, .string y.t, .int .i64 y.n])
    (hlen : xs.length ≤ 1073741824) (hbase : base ≤ w.heap.size)
    (h : ∀ v' w', OwnW w' base v' (xs ++ [y]) → Grew w w' v v' → wpList P ops Q rest (a.put o.dst v') w') : wpList P ops Q (o :: rest) a w :=
  wpList_plain hgd fun _ hK => wp_append_w w s x t ho i ht hi hz hsize hby base v xs hs hown B y hx hB hlen hbase fun v' w' h2 h3 => hK _ _ (h v' w' h2 h3)
theorem step_append_w {ops : Array Oper} {o : Oper} {a : Act} {K : Act → World → Prop} {Q : Exit → Act → World → Prop} {E : Prop} (hgd : o.guard = none) (s x : Operand) (t : TypeId)
    (ho : o.op = .call { callee := .builtin .append, args := #[s, x], argTypes := #[t, t] }) (i : TypeInfo)
    (ht : P.underlying t = some (.slice 73)) (hi : P.info? 73 = some i) (hz : i.zero = some (.agg #[.int .i64 0, .int .i64 0, .string ⟨#[]⟩, .int .i64 0])) (hsize : i.size = 4) (hby : i.bytes = 40)
    (base : Nat) (v : Value) (xs : List Wd) (hs : a.eval s = v) (hown : OwnW w base v xs) (B : Nat) (y : Wd) (hx : a.eval x = .slice (some ⟨B, 0, none⟩) 1 1) (hB : Blk w B 73 #[.int .i64 y.k, .int .i64 y.p, .string y.t, .int .i64 y.n])
    (hlen : xs.length ≤ 1073741824) (hbase : base ≤ w.heap.size)
    (h : ∀ v' w', OwnW w' base v' (xs ++ [y]) → Grew w w' v v' → K (a.put o.dst v') w') : if Region.wanted o (yielded ops a.tmps) = true then Oper.wp P o a w K Q else E := by
  have hw : Region.wanted o (yielded ops a.tmps) = true := by simp [Region.wanted, hgd]
  rw [if_pos hw]
  exact wp_append_w w s x t ho i ht hi hz hsize hby base v xs hs hown B y hx hB hlen hbase h
end

theorem OwnW.base_ {w : World} {base base' : Nat} {v : Value} {l : List Wd} (h : OwnW w base v l) (hb : base' ≤ base) : OwnW w base' v l := by
  refine ⟨h.1, ?_⟩
  rcases h.2 with h | ⟨g, cap, cur, rfl, hg, r⟩
  · exact .inl h
  · exact .inr ⟨g, cap, cur, rfl, by omega, r⟩
theorem rdA_val (s : ByteArray) (p : Nat) (c : UInt8) (j : Nat) : ∃ k' p' t' n', (rdA s p c j).1 = wv k' p' t' n' := by
  unfold rdA
  split
  · split
    · exact ⟨_, _, _, _, rfl⟩
    · exact ⟨_, _, _, _, rfl⟩
  · exact ⟨_, _, _, _, rfl⟩
def rdF (b : Nat) : Array Value := #[.func (.func 138) #[.pointer (some ⟨b, 0, none⟩)] #[], .func (.func 139) #[.pointer (some ⟨b, 0, none⟩)] #[], .func (.func 140) #[.pointer (some ⟨b, 0, none⟩)] #[], .func (.func 141) #[.pointer (some ⟨b, 0, none⟩)] #[]]
set_option maxHeartbeats 1000000 in
theorem readers_any (b : Nat) (w : World) : Calls Tryz.prog 95 #[.pointer (some ⟨b, 0, none⟩)] w fun e w' => e = .returned (.slice (some ⟨w.heap.size, 0, none⟩) 4 4) ∧ w.alloc (.cells (rdF b) 151) = w' := by
  go_enter Tryz.func95, Tryz.ntmps95
  go_wp2_with fail
  go_ret
  exact ⟨rfl, rfl⟩

/-- The tokens of a text, from a place on: an error, its place, the words. -/
structure WR where
  e : Nat
  at_ : Nat
  l : List Wd
def wdF (s : ByteArray) : Nat → Nat → WR
  | 0, p => ⟨0, 0, []⟩
  | k + 1, p =>
    let q := p + (skL (s.data.toList.drop p)).1
    if (skL (s.data.toList.drop p)).2 = false then ⟨30, q, []⟩
    else if q = s.size then ⟨0, 0, [⟨0, q, ⟨#[]⟩, 0⟩]⟩
    else if (tkR s q (s.data.toList.getD q 0)).e ≠ 0 then ⟨(tkR s q (s.data.toList.getD q 0)).e, q, []⟩
    else if (wdF s k (q + (tkR s q (s.data.toList.getD q 0)).z)).e ≠ 0 then wdF s k (q + (tkR s q (s.data.toList.getD q 0)).z)
    else ⟨0, 0, ⟨(tkR s q (s.data.toList.getD q 0)).k, q, (tkR s q (s.data.toList.getD q 0)).t, (tkR s q (s.data.toList.getD q 0)).n⟩ :: (wdF s k (q + (tkR s q (s.data.toList.getD q 0)).z)).l⟩
theorem wd_at0 (s : ByteArray) : ∀ (k p : Nat), (wdF s k p).e = 0 → wdF s k p = ⟨0, 0, (wdF s k p).l⟩
  | 0, p, _ => rfl
  | k + 1, p, h => by
    have ih := wd_at0 s k
    rw [wdF] at h ⊢
    by_cases h1 : (skL (s.data.toList.drop p)).2 = false
    · rw [if_pos h1] at h; cases h
    · rw [if_neg h1] at h ⊢
      by_cases h2 : p + (skL (s.data.toList.drop p)).1 = s.size
      · rw [if_pos h2]
      · rw [if_neg h2] at h ⊢
        by_cases h3 : (tkR s (p + (skL (s.data.toList.drop p)).1) (s.data.toList.getD (p + (skL (s.data.toList.drop p)).1) 0)).e ≠ 0
        · rw [if_pos h3] at h; exact absurd h h3
        · rw [if_neg h3] at h ⊢
          split at h
          · rename_i h4; exact absurd h h4
          · rename_i h4; rw [if_neg h4]
/-- Words ahead of what is still to come. -/
def comb (acc : List Wd) (r : WR) : WR := if r.e ≠ 0 then r else ⟨0, 0, acc ++ r.l⟩
def wordsR (s : ByteArray) : WR := if 65536 < s.size then ⟨5, 0, []⟩ else wdF s (s.size + 1) 0
/-- What Words answers. -/
def WsP (w : World) (R : WR) (e : Ending) (w' : World) : Prop := ∃ v, e = .returned (.tuple #[v, .int .i64 R.at_, .int .i64 R.e]) ∧ OwnW w' w.heap.size v R.l ∧ Below w.heap.size w w'

theorem comb_next (acc : List Wd) (y : Wd) (r : WR) : comb acc (if r.e ≠ 0 then r else ⟨0, 0, y :: r.l⟩) = comb (acc ++ [y]) r := by
  by_cases h : r.e ≠ 0
  · rw [if_pos h]; unfold comb; rw [if_pos h, if_pos h]
  · rw [if_neg h]; unfold comb; rw [if_neg h, if_neg (by simp), List.append_assoc]; rfl
structure WsR (w : World) (s : ByteArray) (R : WR) (v : Value) (p : Nat) (acc : List Wd) (wr : World) : Prop where
  scn : Scn wr w.heap.size s p
  rds : Blk wr (w.heap.size + 1) 151 (rdF w.heap.size)
  own : OwnW wr (w.heap.size + 2) v acc
  bel : Below w.heap.size w wr
  le : p ≤ s.size
  few : acc.length ≤ p
  fin : ∃ k, s.size - p < k ∧ R = comb acc (wdF s k p)

set_option maxRecDepth 100000 in
set_option maxHeartbeats 1000000 in
theorem words_any (s : ByteArray) (w : World) (hE : Env w) (hs : s.size ≤ 1000000) : Calls Tryz.prog 53 #[.string s] w (WsP w (wordsR s)) := by
  obtain ⟨i0, hi0, hz0, hz1, hz2⟩ := info_parts Tryz.info73
  unfold wordsR
  by_cases hbig : 65536 < s.size
  · rw [if_pos hbig]
    have hbig' : (65536 : Int) < (s.size : Int) := by omega
    clear hE
    go_enter Tryz.func53, Tryz.ntmps53
    go_wp2_with fail
    go_step3
    go_wp2_with fail
    rw [Exit.noGoto_ret]
    refine bodyPost_ret (v := .tuple #[.slice none 0 0, .int .i64 0, .int .i64 5]) (by simp [results, Tryz.results53, go_sem]) rfl ⟨_, rfl, OwnW.nil _ _, Below.refl _ _⟩
  · rw [if_neg hbig]
    have hbig' : ¬ (65536 : Int) < (s.size : Int) := by omega
    obtain ⟨R, hR⟩ : ∃ R, R = wdF s (s.size + 1) 0 := ⟨_, rfl⟩
    rw [← hR]
    have HR := Lib.hid hR
    have HE := Lib.hid hE
    have hlt := hE.lt
    clear hR hE hbig
    go_enter Tryz.func53, Tryz.ntmps53
    go_wp2_with fail
    go_step3
    go_wp2_with fail
    refine (readers_any _ _).mono ?_
    rintro e _ ⟨rfl, rfl⟩
    have hst : WsR w s R (.slice none 0 0) 0 [] ((w.alloc (.cells #[.string s, .int .i64 0] 146)).alloc (.cells (rdF w.heap.size) 151)) := by
      refine ⟨?_, ?_, OwnW.nil _ _, ((Below.refl w.heap.size w).alloc (Nat.le_refl _) _).alloc (by simp) _, by omega, by simp, s.size + 1, by omega, ?_⟩
      · exact Blk.alloc (Blk.new w 146 _) _
      · have := Blk.new (w.alloc (.cells #[.string s, .int .i64 0] 146)) 151 (rdF w.heap.size)
        rw [World.size_alloc] at this
        exact this
      · rw [HR.out]
        unfold comb
        split
        · rfl
        · rename_i h
          have h' : (wdF s (s.size + 1) 0).e = 0 := by simpa using h
          rw [List.nil_append]
          exact wd_at0 s _ _ h'
    have HST := Lib.hid hst
    clear hst
    go_wp2_with fail
    go_step3
    go_wp2_with fail
    go_loopg [2] (s.size + 1) (fun g v wr => ∃ (p : Nat) (acc : List Wd), g = s.size + 1 - p ∧ WsR w s R v p acc wr)
    case atStart => exact ⟨0, [], rfl, HST.out⟩
    case round =>
      obtain ⟨p, acc, rfl, hrel⟩ := hrel
      obtain ⟨q, O, hqO⟩ : ∃ q O, q = p + (skL (s.data.toList.drop p)).1 ∧ O = (skL (s.data.toList.drop p)).2 := ⟨_, _, rfl, rfl⟩
      obtain ⟨hq, hO⟩ := hqO
      have hql : q ≤ s.size := by
        have := skL_le (s.data.toList.drop p).length (s.data.toList.drop p)
        have h2 : (s.data.toList.drop p).length = s.size - p := by simp
        have h3 := hrel.le
        unfold skL at hq
        omega
      have hpq : p ≤ q := by omega
      obtain ⟨k, hk, hfin⟩ := hrel.fin
      obtain ⟨k, rfl⟩ : ∃ k', k = k' + 1 := ⟨k - 1, by omega⟩
      rw [wdF] at hfin
      simp only [← hq, ← hO] at hfin
      obtain ⟨m, hm⟩ := (HE.out.below hrel.bel).m
      have hbz : w.heap.size ≠ 0 := by omega
      have hsk := skip_any m hrel.scn hrel.le hs hbz hm
      rw [← hq, ← hO] at hsk
      have HSK := Lib.hid hsk
      have HREL := Lib.hid hrel
      have HFIN := Lib.hid hfin
      have hfew := hrel.few
      obtain ⟨A2, c2, rfl, hc2, hc3, _⟩ := hrel.own.val
      clear hq hO hrel hfin hm hsk
      go_wp2_with fail
      refine (HSK.out).mono ?_
      rintro e w1 ⟨rfl, hsc1, hg1⟩
      have hrd1 : Blk w1 (w.heap.size + 1) 151 (rdF w.heap.size) := HREL.out.rds.grown hg1 (by simp)
      have hown1 : OwnW w1 (w.heap.size + 2) (.slice A2 acc.length c2) acc := HREL.out.own.kept fun g hg => hg1.block g (HREL.out.own.lt hg).2 (by have := (HREL.out.own.lt hg).1; simp; omega)
      have hbe1 : Below w.heap.size w w1 := HREL.out.bel.grown hg1 HREL.out.bel.size (fun g e => by injection e with e; omega)
      have HSC1 := Lib.hid hsc1
      have HRD1 := Lib.hid hrd1
      have HOW1 := Lib.hid hown1
      have HBE1 := Lib.hid hbe1
      have hsz1 : w.heap.size + 1 < w1.heap.size := hrd1.lt
      have d1 := hsc1.c1
      clear hrd1 hown1 hbe1 hg1 HSK HREL hsc1
      cases O
      · have hR2 : R = ⟨30, q, []⟩ := by rw [HFIN.out, if_pos rfl]; rfl
        have HR2 := Lib.hid hR2
        clear hR2
        go_wp2_with fail
        go_quiet (fail)
        go_wp2_with fail
        rw [Exit.noGoto_ret]
        refine bodyPost_ret (v := .tuple #[.slice none 0 0, .int .i64 q, .int .i64 30]) (by simp [results, Tryz.results53, go_sem]) rfl ?_
        rw [HR2.out]
        exact ⟨_, rfl, OwnW.nil _ _, Below.drewN_ HBE1.out _⟩
      · by_cases hend : q = s.size
        · have hR2 : R = ⟨0, 0, acc ++ [⟨0, q, ⟨#[]⟩, 0⟩]⟩ := by rw [HFIN.out, if_neg (by simp), if_pos hend]; rfl
          have HR2 := Lib.hid hR2
          have he : ((q : Int) == (s.size : Int)) = true := by simp; omega
          have hal : acc.length ≤ 1073741824 := by omega
          have hba : w.heap.size + 2 ≤ (w1.alloc (.cells #[.int .i64 0, .int .i64 q, .string ⟨#[]⟩, .int .i64 0] 73)).heap.size := by simp; omega
          have HAL := Lib.hid hal
          have HBA := Lib.hid hba
          have hwo : OwnW (w1.alloc (.cells #[.int .i64 0, .int .i64 q, .string ⟨#[]⟩, .int .i64 0] 73)) (w.heap.size + 2) (.slice A2 acc.length c2) acc := HOW1.out.below ((Below.refl _ _).alloc (Nat.le_refl _) _)
          have HWO := Lib.hid hwo
          clear hR2 hend hal hba hwo
          go_wp2_with (at_builtin; refine wpList_append_w _ rfl _ _ 65 rfl i0 Tryz.underlying65 hi0 hz0 hz1 hz2 (w.heap.size + 2) _ acc rfl HWO.out w1.heap.size ⟨0, q, ⟨#[]⟩, 0⟩ rfl (Blk.new w1 73 _) HAL.out HBA.out ?_; intro v5 w5 ho5 hg5)
          have hb5 : Below w.heap.size w w5 := (HBE1.out.alloc HBE1.out.size _).trans (hg5.below (by have := HBA.out; omega) (fun g e => by have := (HWO.out.lt e).1; omega))
          have HB5 := Lib.hid hb5
          obtain ⟨A5, c5, rfl, _⟩ := ho5.val
          have HO5 := Lib.hid ho5
          clear ho5 hg5 hb5
          go_wp2_with fail
          rw [Exit.noGoto_ret]
          refine bodyPost_ret (v := .tuple #[.slice A5 (acc ++ [(⟨0, q, ⟨#[]⟩, 0⟩ : Wd)]).length c5, .int .i64 0, .int .i64 0]) (by simp [results, Tryz.results53, go_sem]) rfl ?_
          rw [HR2.out]
          exact ⟨_, rfl, HO5.out.base_ (by omega), HB5.out⟩
        · have he : ((q : Int) == (s.size : Int)) = false := by simp; omega
          have hqs : q < s.size := by omega
          have hgd : s.data.toList.getD q 0 = s[q] := by
            rw [List.getD_eq_getElem?_getD, List.getElem?_eq_getElem (by simpa using hqs)]; rfl
          have hfin := HFIN.out
          rw [if_neg (by simp), if_neg hend, hgd] at hfin
          have hcl4 : clN s[q] ≤ 4 := by unfold clN; split <;> (try split) <;> (try split) <;> (try split) <;> omega
          have htk := fun h => tk_size (s := s) hqs h
          have h4 : clN s[q] = 4 → (tkR s q s[q]).e = 30 := by
            intro h
            unfold tkR
            simp only
            rw [if_neg (by omega), if_neg (by omega), if_neg (by omega), if_neg (by omega)]
          have HFI2 := Lib.hid hfin
          have HTK := Lib.hid htk
          have H4 := Lib.hid h4
          clear hfin htk h4 hend hgd HFIN
          go_wp2_with fail
          go_loopg [2, 38] 5 (fun g v2 v wr2 => ∃ j : Nat, j ≤ 4 ∧ g = 5 - j ∧ v2 = .slice A2 acc.length c2 ∧ v = .int .i64 j ∧ j ≤ clN s[q] ∧ Below w1.heap.size w1 wr2)
          case atStart => exact ⟨0, by omega, rfl, rfl, rfl, by omega, Below.refl _ _⟩
          case round =>
            obtain ⟨j, hj4, rfl, rfl, rfl, hjc, hb2⟩ := hrel
            have HB2 := Lib.hid hb2
            have hscn2 : Scn wr w.heap.size s q := Blk.below HSC1.out hb2 (by omega)
            have hrd2 : Blk wr (w.heap.size + 1) 151 (rdF w.heap.size) := Blk.below HRD1.out hb2 hsz1
            have hbe2 : Below w.heap.size w wr := HBE1.out.trans (hb2.mono HBE1.out.size)
            have HSC2 := Lib.hid hscn2
            have HBE2 := Lib.hid hbe2
            have e1 := hscn2.c1
            have hf := fun i => hrd2.cell i
            have j0 : (0 : Int) ≤ (j : Int) := by omega
            clear hb2 hscn2 hrd2 hbe2 d1
            by_cases hj : j < 4
            · have hj' : (j : Int) < 4 := by omega
              obtain rfl | rfl | rfl | rfl : j = 0 ∨ j = 1 ∨ j = 2 ∨ j = 3 := by omega
              · have e2 : wr.cell? ⟨w.heap.size + 1, 0, none⟩ = some (.func (.func 138) #[.pointer (some ⟨w.heap.size, 0, none⟩)] #[]) := hf 0
                obtain ⟨k', p', t', n', hV⟩ := rdA_val s q s[q] 0
                have hrd : Calls Tryz.prog 138 #[.pointer (some ⟨w.heap.size, 0, none⟩)] wr (RdP wr (rdA s q s[q] 0).1 (rdA s q s[q] 0).2.1 (rdA s q s[q] 0).2.2) := read0 (w := wr) HSC2.out hqs hs (HE.out.below HBE2.out)
                have hA : rdA s q s[q] 0 = if clN s[q] = 0 then (if (tkR s q s[q]).e = 0 then (wv (tkR s q s[q]).k q (tkR s q s[q]).t (tkR s q s[q]).n, (tkR s q s[q]).z, 0) else (wv 0 0 ⟨#[]⟩ 0, 0, (tkR s q s[q]).e)) else (wv 0 0 ⟨#[]⟩ 0, 0, 0) := rfl
                rw [hV] at hrd
                have hout : (clN s[q] ≠ 0 ∧ (rdA s q s[q] 0).2.1 = 0 ∧ (rdA s q s[q] 0).2.2 = 0) ∨ (clN s[q] = 0 ∧ (tkR s q s[q]).e ≠ 0 ∧ (rdA s q s[q] 0).2.1 = 0 ∧ (rdA s q s[q] 0).2.2 = (tkR s q s[q]).e) ∨ (clN s[q] = 0 ∧ (tkR s q s[q]).e = 0 ∧ (rdA s q s[q] 0).2.1 = (tkR s q s[q]).z ∧ (rdA s q s[q] 0).2.2 = 0 ∧ wv k' p' t' n' = wv (tkR s q s[q]).k q (tkR s q s[q]).t (tkR s q s[q]).n) := by
                  by_cases g1 : clN s[q] = 0
                  · by_cases g2 : (tkR s q s[q]).e = 0
                    · right; right
                      refine ⟨g1, g2, ?_, ?_, ?_⟩
                      · rw [hA, if_pos g1, if_pos g2]
                      · rw [hA, if_pos g1, if_pos g2]
                      · rw [← hV, hA, if_pos g1, if_pos g2]
                    · right; left
                      refine ⟨g1, g2, ?_, ?_⟩
                      · rw [hA, if_pos g1, if_neg g2]
                      · rw [hA, if_pos g1, if_neg g2]
                  · left
                    refine ⟨g1, ?_, ?_⟩
                    · rw [hA, if_neg g1]
                    · rw [hA, if_neg g1]
                have hrd2 : Calls Tryz.prog 138 #[.pointer (some ⟨w.heap.size, 0, none⟩)] wr (RdP wr (.agg #[.int .i64 k', .int .i64 p', .string t', .int .i64 n']) (rdA s q s[q] 0).2.1 (rdA s q s[q] 0).2.2) := hrd
                generalize (rdA s q s[q] 0).2.1 = S at *
                generalize (rdA s q s[q] 0).2.2 = E at *
                have HRD := Lib.hid hrd2
                have HOUT := Lib.hid hout
                clear hf hrd hA hV hrd2 hout
                go_wp2_with fail
                refine (HRD.out).mono ?_
                rintro e w3 ⟨rfl, hb3⟩
                have hsc3 : Scn w3 w.heap.size s q := Blk.below HSC2.out hb3 (Blk.lt HSC2.out)
                have HB3 := Lib.hid (HB2.out.trans (hb3.mono HB2.out.size))
                have hA3 : ∀ o, (w3.alloc o).cell? ⟨w.heap.size, 1, none⟩ = some (.int .i64 q) := fun o => (Blk.alloc hsc3 o).cell 1
                have d3 := hsc3.c1
                have y3 := Blk.frozen hsc3 1
                have HSC3 := Lib.hid hsc3
                clear hb3 hsc3 e1 e2
                rcases HOUT.out with ⟨g1, rfl, rfl⟩ | ⟨g1, g2, rfl, rfl⟩ | ⟨g1, g2, hS, rfl, hW⟩
                · have HG := Lib.hid g1
                  clear g1
                  go_wp2_with fail
                  go_roundg (5 - (0 + 1))
                  case measure => omega
                  case rel => exact ⟨0 + 1, by omega, rfl, rfl, by go_num, by have := HG.out; omega, HB3.out.alloc HB3.out.size _⟩
                · have hR2 : R = ⟨(tkR s q s[q]).e, q, []⟩ := by rw [HFI2.out, if_pos g2]; unfold comb; rw [if_pos g2]
                  have HR2 := Lib.hid hR2
                  generalize (tkR s q s[q]).e = E at *
                  have hE' : ((E : Int) != 0) = true := by simp; omega
                  clear hR2 g2 g1
                  go_wp2_with fail
                  go_quiet (fail)
                  go_wp2_with fail
                  rw [Exit.noGoto_ret]
                  refine bodyPost_ret (v := .tuple #[.slice none 0 0, .int .i64 q, .int .i64 E]) (by simp [results, Tryz.results53, go_sem]) rfl ?_
                  rw [HR2.out]
                  exact ⟨_, rfl, OwnW.nil _ _, Below.drewN_ (HBE1.out.trans ((HB3.out.alloc HB3.out.size _).mono HBE1.out.size)) _⟩
                · have hz := HTK.out g2
                  have hfi := HFI2.out
                  rw [if_neg (by simpa using g2)] at hfi
                  rw [← hS] at hz hfi
                  obtain ⟨z1, z2⟩ := hz
                  simp only [wv, Value.agg.injEq, Array.mk.injEq, List.cons.injEq, Value.int.injEq, Value.string.injEq, true_and, and_true] at hW
                  obtain ⟨w1', w2', w3', w4'⟩ := hW
                  have hk1 : k' = (tkR s q s[q]).k := by omega
                  have hp1 : p' = q := by omega
                  subst hp1
                  rw [← hk1, ← w3', ← w4'] at hfi
                  have hS0 : (0 : Int) < (S : Int) := by omega
                  rw [comb_next] at hfi
                  have HFI3 := Lib.hid hfi
                  have HHS := Lib.hid hS
                  clear hfi w1' w2' w3' w4' hk1 g1 g2 hS
                  have hbx := Blk.new w3 73 #[.int .i64 k', .int .i64 p', .string t', .int .i64 n']
                  have HSX := Lib.hid (Blk.alloc HSC3.out (.cells #[.int .i64 k', .int .i64 p', .string t', .int .i64 n'] 73))
                  have HRX := Lib.hid (Blk.alloc (Blk.below HRD1.out HB3.out hsz1) (.cells #[.int .i64 k', .int .i64 p', .string t', .int .i64 n'] 73))
                  have HOX := Lib.hid (OwnW.below (HOW1.out.below HB3.out) ((Below.refl w3.heap.size w3).alloc (Nat.le_refl _) (.cells #[.int .i64 k', .int .i64 p', .string t', .int .i64 n'] 73)))
                  have HBX := Lib.hid (HBE1.out.trans ((HB3.out.alloc HB3.out.size (.cells #[.int .i64 k', .int .i64 p', .string t', .int .i64 n'] 73)).mono HBE1.out.size))
                  have HBXB := Lib.hid hbx
                  clear hA3 hbx
                  go_upto_region 17 with fail
                  generalize w3.alloc (.cells #[.int .i64 k', .int .i64 p', .string t', .int .i64 n'] 73) = wX at *
                  obtain ⟨x0, x1, x2, x3, _, _, _, _⟩ := blk33 HBXB.out
                  have hxsz : w.heap.size + 2 ≤ wX.heap.size := by have := HRX.out.lt; omega
                  have d4 := Scn.c1 (w := wX) HSX.out
                  have y4 : wX.frozen? ⟨w.heap.size, 1, none⟩ = false := Blk.frozen HSX.out 1
                  have e8 : IntKind.i64.wrap ((p' : Int) + (S : Int)) = (p' : Int) + (S : Int) := IntWalk.i64_in _ (by omega)
                  have HAL := Lib.hid (show acc.length ≤ 1073741824 by omega)
                  have HWO := Lib.hid (show OwnW (wX.drew.alloc (.cells #[.int .i64 k', .int .i64 p', .string t', .int .i64 n'] 73)) (w.heap.size + 2) (.slice A2 acc.length c2) acc from OwnW.below (w := wX.drew) HOX.out ((Below.refl _ _).alloc (Nat.le_refl _) _))
                  have HBA := Lib.hid (show w.heap.size + 2 ≤ (wX.drew.alloc (.cells #[.int .i64 k', .int .i64 p', .string t', .int .i64 n'] 73)).heap.size by rw [World.size_alloc]; show _ ≤ wX.heap.size + 1; omega)
                  have hA4 : ∀ o, (wX.alloc o).cell? ⟨w.heap.size, 1, none⟩ = some (.int .i64 p') := fun o => (Blk.alloc HSX.out o).cell 1
                  clear d3 y3
                  go_region_law ((refine step_append_w _ (by rfl) _ _ 65 (by rfl) i0 Tryz.underlying65 hi0 hz0 hz1 hz2 (w.heap.size + 2) _ acc (by rfl) HWO.out wX.heap.size ⟨k', p', t', n'⟩ (by rfl) (Blk.new wX.drew 73 _) HAL.out HBA.out ?_; intro v5 w5 ho5 hg5; have hsc5 : Scn w5 w.heap.size s p' := Blk.grown (Blk.alloc (w := wX.drew) HSX.out _) hg5.1 (by intro e; have := (HWO.out.lt e.symm).1; omega); have HSC5 := Lib.hid hsc5; have d5 := hsc5.c1; have y5 := Blk.frozen hsc5 1; have HRD5 := Lib.hid (Blk.grown (Blk.alloc (w := wX.drew) HRX.out _) hg5.1 (by intro e; have := (HWO.out.lt e.symm).1; omega)); have HBE5 := Lib.hid ((HBX.out.drew.alloc HBX.out.drew.size _).trans (hg5.below (Nat.le_trans (Nat.le_add_right _ 2) HBA.out) (fun g e => by have := (HWO.out.lt e).1; omega))); have HO5 := Lib.hid ho5; clear hsc5 hg5 ho5))
                  all_goals
                    go_wp2_with fail
                    go_roundg (s.size + 1 - (p' + S))
                    case measure => omega
                    case rel =>
                      have e9 : (p' : Int) + (S : Int) = ((p' + S : Nat) : Int) := by omega
                      rw [e9]
                      refine ⟨p' + S, acc ++ [⟨k', p', t', n'⟩], rfl, ?_, ?_, ?_, ?_, by omega, by simp; omega, ⟨k, by omega, HFI3.out⟩⟩
                      · exact Blk.set_ HSC5.out 1 _
                      · exact Blk.far HRD5.out (by intro e; simp at e) _
                      · exact HO5.out.kept fun g hg => Below.heap_setCell _ _ _ _ (by intro e; have := (HO5.out.lt hg).1; simp at e; omega)
                      · exact HBE5.out.setCell (Nat.le_refl _) _

              · have e2 : wr.cell? ⟨w.heap.size + 1, 1, none⟩ = some (.func (.func 139) #[.pointer (some ⟨w.heap.size, 0, none⟩)] #[]) := hf 1
                obtain ⟨k', p', t', n', hV⟩ := rdA_val s q s[q] 1
                have hrd : Calls Tryz.prog 139 #[.pointer (some ⟨w.heap.size, 0, none⟩)] wr (RdP wr (rdA s q s[q] 1).1 (rdA s q s[q] 1).2.1 (rdA s q s[q] 1).2.2) := read1 (w := wr) HSC2.out hqs hs (HE.out.below HBE2.out)
                have hA : rdA s q s[q] 1 = if clN s[q] = 1 then (if (tkR s q s[q]).e = 0 then (wv (tkR s q s[q]).k q (tkR s q s[q]).t (tkR s q s[q]).n, (tkR s q s[q]).z, 0) else (wv 0 0 ⟨#[]⟩ 0, 0, (tkR s q s[q]).e)) else (wv 0 0 ⟨#[]⟩ 0, 0, 0) := rfl
                rw [hV] at hrd
                have hout : (clN s[q] ≠ 1 ∧ (rdA s q s[q] 1).2.1 = 0 ∧ (rdA s q s[q] 1).2.2 = 0) ∨ (clN s[q] = 1 ∧ (tkR s q s[q]).e ≠ 0 ∧ (rdA s q s[q] 1).2.1 = 0 ∧ (rdA s q s[q] 1).2.2 = (tkR s q s[q]).e) ∨ (clN s[q] = 1 ∧ (tkR s q s[q]).e = 0 ∧ (rdA s q s[q] 1).2.1 = (tkR s q s[q]).z ∧ (rdA s q s[q] 1).2.2 = 0 ∧ wv k' p' t' n' = wv (tkR s q s[q]).k q (tkR s q s[q]).t (tkR s q s[q]).n) := by
                  by_cases g1 : clN s[q] = 1
                  · by_cases g2 : (tkR s q s[q]).e = 0
                    · right; right
                      refine ⟨g1, g2, ?_, ?_, ?_⟩
                      · rw [hA, if_pos g1, if_pos g2]
                      · rw [hA, if_pos g1, if_pos g2]
                      · rw [← hV, hA, if_pos g1, if_pos g2]
                    · right; left
                      refine ⟨g1, g2, ?_, ?_⟩
                      · rw [hA, if_pos g1, if_neg g2]
                      · rw [hA, if_pos g1, if_neg g2]
                  · left
                    refine ⟨g1, ?_, ?_⟩
                    · rw [hA, if_neg g1]
                    · rw [hA, if_neg g1]
                have hrd2 : Calls Tryz.prog 139 #[.pointer (some ⟨w.heap.size, 0, none⟩)] wr (RdP wr (.agg #[.int .i64 k', .int .i64 p', .string t', .int .i64 n']) (rdA s q s[q] 1).2.1 (rdA s q s[q] 1).2.2) := hrd
                generalize (rdA s q s[q] 1).2.1 = S at *
                generalize (rdA s q s[q] 1).2.2 = E at *
                have HRD := Lib.hid hrd2
                have HOUT := Lib.hid hout
                clear hf hrd hA hV hrd2 hout
                go_wp2_with fail
                refine (HRD.out).mono ?_
                rintro e w3 ⟨rfl, hb3⟩
                have hsc3 : Scn w3 w.heap.size s q := Blk.below HSC2.out hb3 (Blk.lt HSC2.out)
                have HB3 := Lib.hid (HB2.out.trans (hb3.mono HB2.out.size))
                have hA3 : ∀ o, (w3.alloc o).cell? ⟨w.heap.size, 1, none⟩ = some (.int .i64 q) := fun o => (Blk.alloc hsc3 o).cell 1
                have d3 := hsc3.c1
                have y3 := Blk.frozen hsc3 1
                have HSC3 := Lib.hid hsc3
                clear hb3 hsc3 e1 e2
                rcases HOUT.out with ⟨g1, rfl, rfl⟩ | ⟨g1, g2, rfl, rfl⟩ | ⟨g1, g2, hS, rfl, hW⟩
                · have HG := Lib.hid g1
                  clear g1
                  go_wp2_with fail
                  go_roundg (5 - (1 + 1))
                  case measure => omega
                  case rel => exact ⟨1 + 1, by omega, rfl, rfl, by go_num, by have := HG.out; omega, HB3.out.alloc HB3.out.size _⟩
                · have hR2 : R = ⟨(tkR s q s[q]).e, q, []⟩ := by rw [HFI2.out, if_pos g2]; unfold comb; rw [if_pos g2]
                  have HR2 := Lib.hid hR2
                  generalize (tkR s q s[q]).e = E at *
                  have hE' : ((E : Int) != 0) = true := by simp; omega
                  clear hR2 g2 g1
                  go_wp2_with fail
                  go_quiet (fail)
                  go_wp2_with fail
                  rw [Exit.noGoto_ret]
                  refine bodyPost_ret (v := .tuple #[.slice none 0 0, .int .i64 q, .int .i64 E]) (by simp [results, Tryz.results53, go_sem]) rfl ?_
                  rw [HR2.out]
                  exact ⟨_, rfl, OwnW.nil _ _, Below.drewN_ (HBE1.out.trans ((HB3.out.alloc HB3.out.size _).mono HBE1.out.size)) _⟩
                · have hz := HTK.out g2
                  have hfi := HFI2.out
                  rw [if_neg (by simpa using g2)] at hfi
                  rw [← hS] at hz hfi
                  obtain ⟨z1, z2⟩ := hz
                  simp only [wv, Value.agg.injEq, Array.mk.injEq, List.cons.injEq, Value.int.injEq, Value.string.injEq, true_and, and_true] at hW
                  obtain ⟨w1', w2', w3', w4'⟩ := hW
                  have hk1 : k' = (tkR s q s[q]).k := by omega
                  have hp1 : p' = q := by omega
                  subst hp1
                  rw [← hk1, ← w3', ← w4'] at hfi
                  have hS0 : (0 : Int) < (S : Int) := by omega
                  rw [comb_next] at hfi
                  have HFI3 := Lib.hid hfi
                  have HHS := Lib.hid hS
                  clear hfi w1' w2' w3' w4' hk1 g1 g2 hS
                  have hbx := Blk.new w3 73 #[.int .i64 k', .int .i64 p', .string t', .int .i64 n']
                  have HSX := Lib.hid (Blk.alloc HSC3.out (.cells #[.int .i64 k', .int .i64 p', .string t', .int .i64 n'] 73))
                  have HRX := Lib.hid (Blk.alloc (Blk.below HRD1.out HB3.out hsz1) (.cells #[.int .i64 k', .int .i64 p', .string t', .int .i64 n'] 73))
                  have HOX := Lib.hid (OwnW.below (HOW1.out.below HB3.out) ((Below.refl w3.heap.size w3).alloc (Nat.le_refl _) (.cells #[.int .i64 k', .int .i64 p', .string t', .int .i64 n'] 73)))
                  have HBX := Lib.hid (HBE1.out.trans ((HB3.out.alloc HB3.out.size (.cells #[.int .i64 k', .int .i64 p', .string t', .int .i64 n'] 73)).mono HBE1.out.size))
                  have HBXB := Lib.hid hbx
                  clear hA3 hbx
                  go_upto_region 17 with fail
                  generalize w3.alloc (.cells #[.int .i64 k', .int .i64 p', .string t', .int .i64 n'] 73) = wX at *
                  obtain ⟨x0, x1, x2, x3, _, _, _, _⟩ := blk33 HBXB.out
                  have hxsz : w.heap.size + 2 ≤ wX.heap.size := by have := HRX.out.lt; omega
                  have d4 := Scn.c1 (w := wX) HSX.out
                  have y4 : wX.frozen? ⟨w.heap.size, 1, none⟩ = false := Blk.frozen HSX.out 1
                  have e8 : IntKind.i64.wrap ((p' : Int) + (S : Int)) = (p' : Int) + (S : Int) := IntWalk.i64_in _ (by omega)
                  have HAL := Lib.hid (show acc.length ≤ 1073741824 by omega)
                  have HWO := Lib.hid (show OwnW (wX.drew.alloc (.cells #[.int .i64 k', .int .i64 p', .string t', .int .i64 n'] 73)) (w.heap.size + 2) (.slice A2 acc.length c2) acc from OwnW.below (w := wX.drew) HOX.out ((Below.refl _ _).alloc (Nat.le_refl _) _))
                  have HBA := Lib.hid (show w.heap.size + 2 ≤ (wX.drew.alloc (.cells #[.int .i64 k', .int .i64 p', .string t', .int .i64 n'] 73)).heap.size by rw [World.size_alloc]; show _ ≤ wX.heap.size + 1; omega)
                  have hA4 : ∀ o, (wX.alloc o).cell? ⟨w.heap.size, 1, none⟩ = some (.int .i64 p') := fun o => (Blk.alloc HSX.out o).cell 1
                  clear d3 y3
                  go_region_law ((refine step_append_w _ (by rfl) _ _ 65 (by rfl) i0 Tryz.underlying65 hi0 hz0 hz1 hz2 (w.heap.size + 2) _ acc (by rfl) HWO.out wX.heap.size ⟨k', p', t', n'⟩ (by rfl) (Blk.new wX.drew 73 _) HAL.out HBA.out ?_; intro v5 w5 ho5 hg5; have hsc5 : Scn w5 w.heap.size s p' := Blk.grown (Blk.alloc (w := wX.drew) HSX.out _) hg5.1 (by intro e; have := (HWO.out.lt e.symm).1; omega); have HSC5 := Lib.hid hsc5; have d5 := hsc5.c1; have y5 := Blk.frozen hsc5 1; have HRD5 := Lib.hid (Blk.grown (Blk.alloc (w := wX.drew) HRX.out _) hg5.1 (by intro e; have := (HWO.out.lt e.symm).1; omega)); have HBE5 := Lib.hid ((HBX.out.drew.alloc HBX.out.drew.size _).trans (hg5.below (Nat.le_trans (Nat.le_add_right _ 2) HBA.out) (fun g e => by have := (HWO.out.lt e).1; omega))); have HO5 := Lib.hid ho5; clear hsc5 hg5 ho5))
                  all_goals
                    go_wp2_with fail
                    go_roundg (s.size + 1 - (p' + S))
                    case measure => omega
                    case rel =>
                      have e9 : (p' : Int) + (S : Int) = ((p' + S : Nat) : Int) := by omega
                      rw [e9]
                      refine ⟨p' + S, acc ++ [⟨k', p', t', n'⟩], rfl, ?_, ?_, ?_, ?_, by omega, by simp; omega, ⟨k, by omega, HFI3.out⟩⟩
                      · exact Blk.set_ HSC5.out 1 _
                      · exact Blk.far HRD5.out (by intro e; simp at e) _
                      · exact HO5.out.kept fun g hg => Below.heap_setCell _ _ _ _ (by intro e; have := (HO5.out.lt hg).1; simp at e; omega)
                      · exact HBE5.out.setCell (Nat.le_refl _) _

              · have e2 : wr.cell? ⟨w.heap.size + 1, 2, none⟩ = some (.func (.func 140) #[.pointer (some ⟨w.heap.size, 0, none⟩)] #[]) := hf 2
                obtain ⟨k', p', t', n', hV⟩ := rdA_val s q s[q] 2
                have hrd : Calls Tryz.prog 140 #[.pointer (some ⟨w.heap.size, 0, none⟩)] wr (RdP wr (rdA s q s[q] 2).1 (rdA s q s[q] 2).2.1 (rdA s q s[q] 2).2.2) := read2 (w := wr) HSC2.out hqs hs (HE.out.below HBE2.out)
                have hA : rdA s q s[q] 2 = if clN s[q] = 2 then (if (tkR s q s[q]).e = 0 then (wv (tkR s q s[q]).k q (tkR s q s[q]).t (tkR s q s[q]).n, (tkR s q s[q]).z, 0) else (wv 0 0 ⟨#[]⟩ 0, 0, (tkR s q s[q]).e)) else (wv 0 0 ⟨#[]⟩ 0, 0, 0) := rfl
                rw [hV] at hrd
                have hout : (clN s[q] ≠ 2 ∧ (rdA s q s[q] 2).2.1 = 0 ∧ (rdA s q s[q] 2).2.2 = 0) ∨ (clN s[q] = 2 ∧ (tkR s q s[q]).e ≠ 0 ∧ (rdA s q s[q] 2).2.1 = 0 ∧ (rdA s q s[q] 2).2.2 = (tkR s q s[q]).e) ∨ (clN s[q] = 2 ∧ (tkR s q s[q]).e = 0 ∧ (rdA s q s[q] 2).2.1 = (tkR s q s[q]).z ∧ (rdA s q s[q] 2).2.2 = 0 ∧ wv k' p' t' n' = wv (tkR s q s[q]).k q (tkR s q s[q]).t (tkR s q s[q]).n) := by
                  by_cases g1 : clN s[q] = 2
                  · by_cases g2 : (tkR s q s[q]).e = 0
                    · right; right
                      refine ⟨g1, g2, ?_, ?_, ?_⟩
                      · rw [hA, if_pos g1, if_pos g2]
                      · rw [hA, if_pos g1, if_pos g2]
                      · rw [← hV, hA, if_pos g1, if_pos g2]
                    · right; left
                      refine ⟨g1, g2, ?_, ?_⟩
                      · rw [hA, if_pos g1, if_neg g2]
                      · rw [hA, if_pos g1, if_neg g2]
                  · left
                    refine ⟨g1, ?_, ?_⟩
                    · rw [hA, if_neg g1]
                    · rw [hA, if_neg g1]
                have hrd2 : Calls Tryz.prog 140 #[.pointer (some ⟨w.heap.size, 0, none⟩)] wr (RdP wr (.agg #[.int .i64 k', .int .i64 p', .string t', .int .i64 n']) (rdA s q s[q] 2).2.1 (rdA s q s[q] 2).2.2) := hrd
                generalize (rdA s q s[q] 2).2.1 = S at *
                generalize (rdA s q s[q] 2).2.2 = E at *
                have HRD := Lib.hid hrd2
                have HOUT := Lib.hid hout
                clear hf hrd hA hV hrd2 hout
                go_wp2_with fail
                refine (HRD.out).mono ?_
                rintro e w3 ⟨rfl, hb3⟩
                have hsc3 : Scn w3 w.heap.size s q := Blk.below HSC2.out hb3 (Blk.lt HSC2.out)
                have HB3 := Lib.hid (HB2.out.trans (hb3.mono HB2.out.size))
                have hA3 : ∀ o, (w3.alloc o).cell? ⟨w.heap.size, 1, none⟩ = some (.int .i64 q) := fun o => (Blk.alloc hsc3 o).cell 1
                have d3 := hsc3.c1
                have y3 := Blk.frozen hsc3 1
                have HSC3 := Lib.hid hsc3
                clear hb3 hsc3 e1 e2
                rcases HOUT.out with ⟨g1, rfl, rfl⟩ | ⟨g1, g2, rfl, rfl⟩ | ⟨g1, g2, hS, rfl, hW⟩
                · have HG := Lib.hid g1
                  clear g1
                  go_wp2_with fail
                  go_roundg (5 - (2 + 1))
                  case measure => omega
                  case rel => exact ⟨2 + 1, by omega, rfl, rfl, by go_num, by have := HG.out; omega, HB3.out.alloc HB3.out.size _⟩
                · have hR2 : R = ⟨(tkR s q s[q]).e, q, []⟩ := by rw [HFI2.out, if_pos g2]; unfold comb; rw [if_pos g2]
                  have HR2 := Lib.hid hR2
                  generalize (tkR s q s[q]).e = E at *
                  have hE' : ((E : Int) != 0) = true := by simp; omega
                  clear hR2 g2 g1
                  go_wp2_with fail
                  go_quiet (fail)
                  go_wp2_with fail
                  rw [Exit.noGoto_ret]
                  refine bodyPost_ret (v := .tuple #[.slice none 0 0, .int .i64 q, .int .i64 E]) (by simp [results, Tryz.results53, go_sem]) rfl ?_
                  rw [HR2.out]
                  exact ⟨_, rfl, OwnW.nil _ _, Below.drewN_ (HBE1.out.trans ((HB3.out.alloc HB3.out.size _).mono HBE1.out.size)) _⟩
                · have hz := HTK.out g2
                  have hfi := HFI2.out
                  rw [if_neg (by simpa using g2)] at hfi
                  rw [← hS] at hz hfi
                  obtain ⟨z1, z2⟩ := hz
                  simp only [wv, Value.agg.injEq, Array.mk.injEq, List.cons.injEq, Value.int.injEq, Value.string.injEq, true_and, and_true] at hW
                  obtain ⟨w1', w2', w3', w4'⟩ := hW
                  have hk1 : k' = (tkR s q s[q]).k := by omega
                  have hp1 : p' = q := by omega
                  subst hp1
                  rw [← hk1, ← w3', ← w4'] at hfi
                  have hS0 : (0 : Int) < (S : Int) := by omega
                  rw [comb_next] at hfi
                  have HFI3 := Lib.hid hfi
                  have HHS := Lib.hid hS
                  clear hfi w1' w2' w3' w4' hk1 g1 g2 hS
                  have hbx := Blk.new w3 73 #[.int .i64 k', .int .i64 p', .string t', .int .i64 n']
                  have HSX := Lib.hid (Blk.alloc HSC3.out (.cells #[.int .i64 k', .int .i64 p', .string t', .int .i64 n'] 73))
                  have HRX := Lib.hid (Blk.alloc (Blk.below HRD1.out HB3.out hsz1) (.cells #[.int .i64 k', .int .i64 p', .string t', .int .i64 n'] 73))
                  have HOX := Lib.hid (OwnW.below (HOW1.out.below HB3.out) ((Below.refl w3.heap.size w3).alloc (Nat.le_refl _) (.cells #[.int .i64 k', .int .i64 p', .string t', .int .i64 n'] 73)))
                  have HBX := Lib.hid (HBE1.out.trans ((HB3.out.alloc HB3.out.size (.cells #[.int .i64 k', .int .i64 p', .string t', .int .i64 n'] 73)).mono HBE1.out.size))
                  have HBXB := Lib.hid hbx
                  clear hA3 hbx
                  go_upto_region 17 with fail
                  generalize w3.alloc (.cells #[.int .i64 k', .int .i64 p', .string t', .int .i64 n'] 73) = wX at *
                  obtain ⟨x0, x1, x2, x3, _, _, _, _⟩ := blk33 HBXB.out
                  have hxsz : w.heap.size + 2 ≤ wX.heap.size := by have := HRX.out.lt; omega
                  have d4 := Scn.c1 (w := wX) HSX.out
                  have y4 : wX.frozen? ⟨w.heap.size, 1, none⟩ = false := Blk.frozen HSX.out 1
                  have e8 : IntKind.i64.wrap ((p' : Int) + (S : Int)) = (p' : Int) + (S : Int) := IntWalk.i64_in _ (by omega)
                  have HAL := Lib.hid (show acc.length ≤ 1073741824 by omega)
                  have HWO := Lib.hid (show OwnW (wX.drew.alloc (.cells #[.int .i64 k', .int .i64 p', .string t', .int .i64 n'] 73)) (w.heap.size + 2) (.slice A2 acc.length c2) acc from OwnW.below (w := wX.drew) HOX.out ((Below.refl _ _).alloc (Nat.le_refl _) _))
                  have HBA := Lib.hid (show w.heap.size + 2 ≤ (wX.drew.alloc (.cells #[.int .i64 k', .int .i64 p', .string t', .int .i64 n'] 73)).heap.size by rw [World.size_alloc]; show _ ≤ wX.heap.size + 1; omega)
                  have hA4 : ∀ o, (wX.alloc o).cell? ⟨w.heap.size, 1, none⟩ = some (.int .i64 p') := fun o => (Blk.alloc HSX.out o).cell 1
                  clear d3 y3
                  go_region_law ((refine step_append_w _ (by rfl) _ _ 65 (by rfl) i0 Tryz.underlying65 hi0 hz0 hz1 hz2 (w.heap.size + 2) _ acc (by rfl) HWO.out wX.heap.size ⟨k', p', t', n'⟩ (by rfl) (Blk.new wX.drew 73 _) HAL.out HBA.out ?_; intro v5 w5 ho5 hg5; have hsc5 : Scn w5 w.heap.size s p' := Blk.grown (Blk.alloc (w := wX.drew) HSX.out _) hg5.1 (by intro e; have := (HWO.out.lt e.symm).1; omega); have HSC5 := Lib.hid hsc5; have d5 := hsc5.c1; have y5 := Blk.frozen hsc5 1; have HRD5 := Lib.hid (Blk.grown (Blk.alloc (w := wX.drew) HRX.out _) hg5.1 (by intro e; have := (HWO.out.lt e.symm).1; omega)); have HBE5 := Lib.hid ((HBX.out.drew.alloc HBX.out.drew.size _).trans (hg5.below (Nat.le_trans (Nat.le_add_right _ 2) HBA.out) (fun g e => by have := (HWO.out.lt e).1; omega))); have HO5 := Lib.hid ho5; clear hsc5 hg5 ho5))
                  all_goals
                    go_wp2_with fail
                    go_roundg (s.size + 1 - (p' + S))
                    case measure => omega
                    case rel =>
                      have e9 : (p' : Int) + (S : Int) = ((p' + S : Nat) : Int) := by omega
                      rw [e9]
                      refine ⟨p' + S, acc ++ [⟨k', p', t', n'⟩], rfl, ?_, ?_, ?_, ?_, by omega, by simp; omega, ⟨k, by omega, HFI3.out⟩⟩
                      · exact Blk.set_ HSC5.out 1 _
                      · exact Blk.far HRD5.out (by intro e; simp at e) _
                      · exact HO5.out.kept fun g hg => Below.heap_setCell _ _ _ _ (by intro e; have := (HO5.out.lt hg).1; simp at e; omega)
                      · exact HBE5.out.setCell (Nat.le_refl _) _

              · have e2 : wr.cell? ⟨w.heap.size + 1, 3, none⟩ = some (.func (.func 141) #[.pointer (some ⟨w.heap.size, 0, none⟩)] #[]) := hf 3
                obtain ⟨k', p', t', n', hV⟩ := rdA_val s q s[q] 3
                have hrd : Calls Tryz.prog 141 #[.pointer (some ⟨w.heap.size, 0, none⟩)] wr (RdP wr (rdA s q s[q] 3).1 (rdA s q s[q] 3).2.1 (rdA s q s[q] 3).2.2) := read3 (w := wr) HSC2.out hqs hs (HE.out.below HBE2.out)
                have hA : rdA s q s[q] 3 = if clN s[q] = 3 then (if (tkR s q s[q]).e = 0 then (wv (tkR s q s[q]).k q (tkR s q s[q]).t (tkR s q s[q]).n, (tkR s q s[q]).z, 0) else (wv 0 0 ⟨#[]⟩ 0, 0, (tkR s q s[q]).e)) else (wv 0 0 ⟨#[]⟩ 0, 0, 0) := rfl
                rw [hV] at hrd
                have hout : (clN s[q] ≠ 3 ∧ (rdA s q s[q] 3).2.1 = 0 ∧ (rdA s q s[q] 3).2.2 = 0) ∨ (clN s[q] = 3 ∧ (tkR s q s[q]).e ≠ 0 ∧ (rdA s q s[q] 3).2.1 = 0 ∧ (rdA s q s[q] 3).2.2 = (tkR s q s[q]).e) ∨ (clN s[q] = 3 ∧ (tkR s q s[q]).e = 0 ∧ (rdA s q s[q] 3).2.1 = (tkR s q s[q]).z ∧ (rdA s q s[q] 3).2.2 = 0 ∧ wv k' p' t' n' = wv (tkR s q s[q]).k q (tkR s q s[q]).t (tkR s q s[q]).n) := by
                  by_cases g1 : clN s[q] = 3
                  · by_cases g2 : (tkR s q s[q]).e = 0
                    · right; right
                      refine ⟨g1, g2, ?_, ?_, ?_⟩
                      · rw [hA, if_pos g1, if_pos g2]
                      · rw [hA, if_pos g1, if_pos g2]
                      · rw [← hV, hA, if_pos g1, if_pos g2]
                    · right; left
                      refine ⟨g1, g2, ?_, ?_⟩
                      · rw [hA, if_pos g1, if_neg g2]
                      · rw [hA, if_pos g1, if_neg g2]
                  · left
                    refine ⟨g1, ?_, ?_⟩
                    · rw [hA, if_neg g1]
                    · rw [hA, if_neg g1]
                have hrd2 : Calls Tryz.prog 141 #[.pointer (some ⟨w.heap.size, 0, none⟩)] wr (RdP wr (.agg #[.int .i64 k', .int .i64 p', .string t', .int .i64 n']) (rdA s q s[q] 3).2.1 (rdA s q s[q] 3).2.2) := hrd
                generalize (rdA s q s[q] 3).2.1 = S at *
                generalize (rdA s q s[q] 3).2.2 = E at *
                have HRD := Lib.hid hrd2
                have HOUT := Lib.hid hout
                clear hf hrd hA hV hrd2 hout
                go_wp2_with fail
                refine (HRD.out).mono ?_
                rintro e w3 ⟨rfl, hb3⟩
                have hsc3 : Scn w3 w.heap.size s q := Blk.below HSC2.out hb3 (Blk.lt HSC2.out)
                have HB3 := Lib.hid (HB2.out.trans (hb3.mono HB2.out.size))
                have hA3 : ∀ o, (w3.alloc o).cell? ⟨w.heap.size, 1, none⟩ = some (.int .i64 q) := fun o => (Blk.alloc hsc3 o).cell 1
                have d3 := hsc3.c1
                have y3 := Blk.frozen hsc3 1
                have HSC3 := Lib.hid hsc3
                clear hb3 hsc3 e1 e2
                rcases HOUT.out with ⟨g1, rfl, rfl⟩ | ⟨g1, g2, rfl, rfl⟩ | ⟨g1, g2, hS, rfl, hW⟩
                · have HG := Lib.hid g1
                  clear g1
                  go_wp2_with fail
                  go_roundg (5 - (3 + 1))
                  case measure => omega
                  case rel => exact ⟨3 + 1, by omega, rfl, rfl, by go_num, by have := HG.out; omega, HB3.out.alloc HB3.out.size _⟩
                · have hR2 : R = ⟨(tkR s q s[q]).e, q, []⟩ := by rw [HFI2.out, if_pos g2]; unfold comb; rw [if_pos g2]
                  have HR2 := Lib.hid hR2
                  generalize (tkR s q s[q]).e = E at *
                  have hE' : ((E : Int) != 0) = true := by simp; omega
                  clear hR2 g2 g1
                  go_wp2_with fail
                  go_quiet (fail)
                  go_wp2_with fail
                  rw [Exit.noGoto_ret]
                  refine bodyPost_ret (v := .tuple #[.slice none 0 0, .int .i64 q, .int .i64 E]) (by simp [results, Tryz.results53, go_sem]) rfl ?_
                  rw [HR2.out]
                  exact ⟨_, rfl, OwnW.nil _ _, Below.drewN_ (HBE1.out.trans ((HB3.out.alloc HB3.out.size _).mono HBE1.out.size)) _⟩
                · have hz := HTK.out g2
                  have hfi := HFI2.out
                  rw [if_neg (by simpa using g2)] at hfi
                  rw [← hS] at hz hfi
                  obtain ⟨z1, z2⟩ := hz
                  simp only [wv, Value.agg.injEq, Array.mk.injEq, List.cons.injEq, Value.int.injEq, Value.string.injEq, true_and, and_true] at hW
                  obtain ⟨w1', w2', w3', w4'⟩ := hW
                  have hk1 : k' = (tkR s q s[q]).k := by omega
                  have hp1 : p' = q := by omega
                  subst hp1
                  rw [← hk1, ← w3', ← w4'] at hfi
                  have hS0 : (0 : Int) < (S : Int) := by omega
                  rw [comb_next] at hfi
                  have HFI3 := Lib.hid hfi
                  have HHS := Lib.hid hS
                  clear hfi w1' w2' w3' w4' hk1 g1 g2 hS
                  have hbx := Blk.new w3 73 #[.int .i64 k', .int .i64 p', .string t', .int .i64 n']
                  have HSX := Lib.hid (Blk.alloc HSC3.out (.cells #[.int .i64 k', .int .i64 p', .string t', .int .i64 n'] 73))
                  have HRX := Lib.hid (Blk.alloc (Blk.below HRD1.out HB3.out hsz1) (.cells #[.int .i64 k', .int .i64 p', .string t', .int .i64 n'] 73))
                  have HOX := Lib.hid (OwnW.below (HOW1.out.below HB3.out) ((Below.refl w3.heap.size w3).alloc (Nat.le_refl _) (.cells #[.int .i64 k', .int .i64 p', .string t', .int .i64 n'] 73)))
                  have HBX := Lib.hid (HBE1.out.trans ((HB3.out.alloc HB3.out.size (.cells #[.int .i64 k', .int .i64 p', .string t', .int .i64 n'] 73)).mono HBE1.out.size))
                  have HBXB := Lib.hid hbx
                  clear hA3 hbx
                  go_upto_region 17 with fail
                  generalize w3.alloc (.cells #[.int .i64 k', .int .i64 p', .string t', .int .i64 n'] 73) = wX at *
                  obtain ⟨x0, x1, x2, x3, _, _, _, _⟩ := blk33 HBXB.out
                  have hxsz : w.heap.size + 2 ≤ wX.heap.size := by have := HRX.out.lt; omega
                  have d4 := Scn.c1 (w := wX) HSX.out
                  have y4 : wX.frozen? ⟨w.heap.size, 1, none⟩ = false := Blk.frozen HSX.out 1
                  have e8 : IntKind.i64.wrap ((p' : Int) + (S : Int)) = (p' : Int) + (S : Int) := IntWalk.i64_in _ (by omega)
                  have HAL := Lib.hid (show acc.length ≤ 1073741824 by omega)
                  have HWO := Lib.hid (show OwnW (wX.drew.alloc (.cells #[.int .i64 k', .int .i64 p', .string t', .int .i64 n'] 73)) (w.heap.size + 2) (.slice A2 acc.length c2) acc from OwnW.below (w := wX.drew) HOX.out ((Below.refl _ _).alloc (Nat.le_refl _) _))
                  have HBA := Lib.hid (show w.heap.size + 2 ≤ (wX.drew.alloc (.cells #[.int .i64 k', .int .i64 p', .string t', .int .i64 n'] 73)).heap.size by rw [World.size_alloc]; show _ ≤ wX.heap.size + 1; omega)
                  have hA4 : ∀ o, (wX.alloc o).cell? ⟨w.heap.size, 1, none⟩ = some (.int .i64 p') := fun o => (Blk.alloc HSX.out o).cell 1
                  clear d3 y3
                  go_region_law ((refine step_append_w _ (by rfl) _ _ 65 (by rfl) i0 Tryz.underlying65 hi0 hz0 hz1 hz2 (w.heap.size + 2) _ acc (by rfl) HWO.out wX.heap.size ⟨k', p', t', n'⟩ (by rfl) (Blk.new wX.drew 73 _) HAL.out HBA.out ?_; intro v5 w5 ho5 hg5; have hsc5 : Scn w5 w.heap.size s p' := Blk.grown (Blk.alloc (w := wX.drew) HSX.out _) hg5.1 (by intro e; have := (HWO.out.lt e.symm).1; omega); have HSC5 := Lib.hid hsc5; have d5 := hsc5.c1; have y5 := Blk.frozen hsc5 1; have HRD5 := Lib.hid (Blk.grown (Blk.alloc (w := wX.drew) HRX.out _) hg5.1 (by intro e; have := (HWO.out.lt e.symm).1; omega)); have HBE5 := Lib.hid ((HBX.out.drew.alloc HBX.out.drew.size _).trans (hg5.below (Nat.le_trans (Nat.le_add_right _ 2) HBA.out) (fun g e => by have := (HWO.out.lt e).1; omega))); have HO5 := Lib.hid ho5; clear hsc5 hg5 ho5))
                  all_goals
                    go_wp2_with fail
                    go_roundg (s.size + 1 - (p' + S))
                    case measure => omega
                    case rel =>
                      have e9 : (p' : Int) + (S : Int) = ((p' + S : Nat) : Int) := by omega
                      rw [e9]
                      refine ⟨p' + S, acc ++ [⟨k', p', t', n'⟩], rfl, ?_, ?_, ?_, ?_, by omega, by simp; omega, ⟨k, by omega, HFI3.out⟩⟩
                      · exact Blk.set_ HSC5.out 1 _
                      · exact Blk.far HRD5.out (by intro e; simp at e) _
                      · exact HO5.out.kept fun g hg => Below.heap_setCell _ _ _ _ (by intro e; have := (HO5.out.lt hg).1; simp at e; omega)
                      · exact HBE5.out.setCell (Nat.le_refl _) _

            · have hj' : ¬ (j : Int) < 4 := by omega
              have hR2 : R = ⟨30, q, []⟩ := by rw [HFI2.out, if_pos (by rw [H4.out (by omega)]; omega), H4.out (by omega)]; rfl
              have HR2 := Lib.hid hR2
              clear hf hR2
              go_wp2_with fail
              go_quiet (fail)
              go_wp2_with fail
              rw [Exit.noGoto_ret]
              refine bodyPost_ret (v := .tuple #[.slice none 0 0, .int .i64 q, .int .i64 30]) (by simp [results, Tryz.results53, go_sem]) rfl ?_
              rw [HR2.out]
              exact ⟨_, rfl, OwnW.nil _ _, Below.drewN_ HBE2.out _⟩
end Go.Proofs.YthmdaejlopjjoaaGreatDoor
