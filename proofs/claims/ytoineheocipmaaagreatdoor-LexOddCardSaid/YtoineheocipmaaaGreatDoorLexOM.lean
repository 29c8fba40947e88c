/-
  Lex: what stands in no word, put in between words, is told at its place: mathematics; what stands in memory then.
-/
import Derived.Test.YtoineheocipmaaaGreatDoorLexKM
import Derived.Test.YtoineheocipmaaaGreatDoorLexRow
namespace Go.Proofs.YtoineheocipmaaaGreatDoor
set_option linter.unusedVariables false
set_option linter.unusedSimpArgs false

/-- Of a text that begins with tokens, and then has a remark that does not end, that is told. -/
theorem words_open {s : ByteArray} {l : List It} {r pad : List UInt8} (hs : s.size ≤ 65536) (h : ItsOk l (pad ++ r)) (hp : SepOk pad) (h0 : skL r = (0, false)) (hd : s.data.toList = flatI l ++ (pad ++ r)) :
    wordsR s = ⟨30, (flatI l).length + pad.length, []⟩ := by
  have hlen : (flatI l).length + (pad.length + r.length) = s.size := by
    have := congrArg List.length hd
    simpa using this.symm
  have hfew : l.length ≤ (flatI l).length := by
    clear hd hlen
    induction l with
    | nil => simp
    | cons i l ih =>
      have := ih h.2.2.2
      have h2 : 0 < i.t.length := List.length_pos_iff.2 h.2.1.ne
      have e : flatI (i :: l) = i.pad ++ (i.t ++ flatI l) := by simp [flatI]
      rw [e]
      simp only [List.length_cons, List.length_append]
      omega
  unfold wordsR
  rw [if_neg (by omega)]
  obtain ⟨k, hk⟩ : ∃ k, s.size + 1 = k + 1 + l.length := ⟨s.size - l.length, by omega⟩
  have hd0 : s.data.toList.drop 0 = flatI l ++ (pad ++ r) := by rw [List.drop_zero]; exact hd
  have hd1 := drop_more hd0
  have hlast : wdF s (k + 1) (0 + (flatI l).length) = ⟨30, (flatI l).length + pad.length, []⟩ := by
    have hsk : skL (s.data.toList.drop (0 + (flatI l).length)) = (pad.length, false) := by
      rw [hd1, hp, h0]
      rfl
    rw [wdF]
    simp only [hsk, if_true]
    rw [Nat.zero_add]
  rw [hk, wd_items l (pad ++ r) s (k + 1) 0 h hd0, hlast, if_pos (by simp)]
/-- What stands in no word. -/
def oddM : List (List UInt8) := [[35], [47], [42], [43], [63], [64], [36], [92], [0], [127], [255], [58], [33], [37], [38], [124], [94], [126], [48, 57], [48, 120], [48, 120, 103], [55, 97],
  [97, 98, 99, 100, 101, 102, 103, 104, 105, 106, 107, 108, 109, 110, 111, 112, 113, 114, 115, 116, 117, 118, 119, 120, 121, 122, 97, 98, 99, 100, 101, 102, 103],
  [50, 49, 52, 55, 52, 56, 51, 54, 52, 57], [48, 50, 48, 48, 48, 48, 48, 48, 48, 48, 48, 49], [39, 97], [34, 92, 113, 34], [47, 42, 32, 97]]
def oddE (n : Nat) : Nat := if n = 23 ∨ n = 24 then 9 else if n = 25 ∨ n = 26 then 21 else 30
theorem tk_none {s : ByteArray} {p : Nat} {c : UInt8} (h : clN c = 4) : (tkR s p c).e = 30 := by
  unfold tkR
  simp only [h]
  rfl
theorem tk_badnum {s : ByteArray} {p E : Nat} {c : UInt8} {t r : List UInt8} (h : clN c = 1) (ha : (c :: t).all (fun x => wdZ x.toNat) = true) (hv : (vlR ⟨(c :: t).toArray⟩).2 = E) (hE : E ≠ 0) (hd : s.data.toList.drop p = (c :: t) ++ 10 :: r) :
    (tkR s p c).e = E := by
  have hr := runL_app (c :: t) (10 :: r) (fun x hx => List.all_eq_true.1 ha x hx) (StopB.cons r (by decide))
  unfold tkR
  simp only [hd, hr, h, ext_app hd, hv]
  rw [if_neg (by omega), if_pos trivial, if_neg hE]
theorem tk_long {s : ByteArray} {p : Nat} {c : UInt8} {t r : List UInt8} (h : clN c = 0) (ha : (c :: t).all (fun x => wdZ x.toNat) = true) (hv : identL (c :: t) = false) (hd : s.data.toList.drop p = (c :: t) ++ 10 :: r) :
    (tkR s p c).e = 30 := by
  have hr := runL_app (c :: t) (10 :: r) (fun x hx => List.all_eq_true.1 ha x hx) (StopB.cons r (by decide))
  unfold tkR
  simp only [hd, hr, h, hv]
  rfl
theorem tk_open {s : ByteArray} {p : Nat} {r : List UInt8} (hd : s.data.toList.drop p = 39 :: 97 :: 10 :: r) : (tkR s p 39).e = 21 := by
  have hl : liL (39 :: 97 :: 10 :: r) = 0 := by
    show liP 39 1 (97 :: 10 :: r) = 0
    rw [liP_cons, if_neg (by decide), if_neg (by decide), if_neg (by decide), liP_cons, if_pos rfl]
  unfold tkR
  simp only [hd, hl, show clN 39 = 2 from by decide]
  rfl
theorem tk_esc {s : ByteArray} {p : Nat} {r : List UInt8} (hd : s.data.toList.drop p = 34 :: 92 :: 113 :: 34 :: 10 :: r) : (tkR s p 34).e = 21 := by
  have hl : liL (34 :: 92 :: 113 :: 34 :: 10 :: r) = 4 := by
    show liP 34 1 (92 :: 113 :: 34 :: 10 :: r) = 4
    rw [liP_cons, if_neg (by decide), if_neg (by decide), if_pos rfl]
    show liP 34 3 (34 :: 10 :: r) = 4
    rw [liP_cons, if_neg (by decide), if_pos rfl]
  have hu : unqL [34, 92, 113, 34] = none := by decide +kernel
  unfold tkR
  simp only [hd, hl, show clN 34 = 2 from by decide, List.take_succ_cons, List.take_zero, hu]
  rfl
theorem sk_slash (r : List UInt8) : skL (47 :: 10 :: r) = (0, true) := skL_stop (by decide) (by simp [Lib.hasPrefix, List.isPrefixOf]) (by simp [Lib.hasPrefix, List.isPrefixOf])
theorem odd_tk {s : ByteArray} (n : Nat) (hn : n < 27) (r : List UInt8) : (oddM.getD n []).length ≤ 40 ∧ skL (oddM.getD n [] ++ 10 :: r) = (0, true) ∧ ∀ p, s.data.toList.drop p = oddM.getD n [] ++ 10 :: r → (tkR s p ((oddM.getD n [] ++ 10 :: r).headD 0)).e = oddE n := by
  have key : ∀ m : Fin 27, (match oddM.getD m.val [] with | [] => false | c :: t => (m.val == 1 || (!blB c && c != 47)) && (decide (18 ≤ m.val) || clN c == 4) && decide (t.length < 40)) = true := by decide +kernel
  have hk := key ⟨n, hn⟩
  simp only at hk
  have hsl : n = 1 → oddM.getD n [] = [47] := fun e => by rw [e]; rfl
  have hrest : 18 ≤ n → n = 18 ∨ n = 19 ∨ n = 20 ∨ n = 21 ∨ n = 22 ∨ n = 23 ∨ n = 24 ∨ n = 25 ∨ n = 26 := fun h => by omega
  have h18 : ∀ p, 18 ≤ n → s.data.toList.drop p = oddM.getD n [] ++ 10 :: r → (tkR s p ((oddM.getD n [] ++ 10 :: r).headD 0)).e = oddE n := by
    intro p hge hd
    rcases hrest hge with rfl | rfl | rfl | rfl | rfl | rfl | rfl | rfl | rfl
    · exact tk_badnum (c := 48) (t := [57]) (by decide) (by decide +kernel) (by decide +kernel) (by decide) hd
    · exact tk_badnum (c := 48) (t := [120]) (by decide) (by decide +kernel) (by decide +kernel) (by decide) hd
    · exact tk_badnum (c := 48) (t := [120, 103]) (by decide) (by decide +kernel) (by decide +kernel) (by decide) hd
    · exact tk_badnum (c := 55) (t := [97]) (by decide) (by decide +kernel) (by decide +kernel) (by decide) hd
    · exact tk_long (c := 97) (t := [98, 99, 100, 101, 102, 103, 104, 105, 106, 107, 108, 109, 110, 111, 112, 113, 114, 115, 116, 117, 118, 119, 120, 121, 122, 97, 98, 99, 100, 101, 102, 103]) (by decide) (by decide +kernel) (by decide +kernel) hd
    · exact tk_badnum (c := 50) (t := [49, 52, 55, 52, 56, 51, 54, 52, 57]) (by decide) (by decide +kernel) (by decide +kernel) (by decide) hd
    · exact tk_badnum (c := 48) (t := [50, 48, 48, 48, 48, 48, 48, 48, 48, 48, 49]) (by decide) (by decide +kernel) (by decide +kernel) (by decide) hd
    · exact tk_open hd
    · exact tk_esc hd
  generalize hO : oddM.getD n [] = O at *
  cases O with
  | nil => simp at hk
  | cons c t =>
    simp only [Bool.and_eq_true, Bool.or_eq_true, beq_iff_eq, Bool.not_eq_true', bne_iff_ne, ne_eq, decide_eq_true_eq] at hk
    obtain ⟨⟨k1, k2⟩, k3⟩ := hk
    refine ⟨by simp; omega, ?_, fun p hd => ?_⟩
    · rcases k1 with e | ⟨e1, e2⟩
      · have := hsl e
        rw [this]
        exact sk_slash r
      · exact skL_head e1 e2
    · rcases k2 with hge | hcl
      · exact h18 p hge hd
      · have hlt : n < 18 ∨ 18 ≤ n := by omega
        rcases hlt with h | h
        · have he : oddE n = 30 := by unfold oddE; rw [if_neg (by omega), if_neg (by omega)]
          rw [he]
          exact tk_none hcl
        · exact h18 p h hd
theorem oddE_ne (n : Nat) : oddE n ≠ 0 := by
  unfold oddE
  split
  · decide
  · split <;> decide
theorem odd_words {l : List Wi} {s : ByteArray} {r : List UInt8} (n : Nat) (hn : n < 27) (h : ∀ x ∈ l, WiOk x) (hs : s.size ≤ 65536) (hd : s.data.toList = jL l ++ 10 :: (oddM.getD n [] ++ 10 :: r)) :
    wordsR s = ⟨oddE n, (jL l).length + 1, []⟩ := by
  obtain ⟨_, h1, h2⟩ := odd_tk (s := s) n hn r
  rw [jL_its l h] at hd ⊢
  exact words_bad (pad := [10]) (t := []) hs (its_join l _ h (StopB.cons _ (by decide))) (SepOk.blank rfl) (by simp) h1 (oddE_ne n) h2 hd
/-- A remark that does not end is told; or there is what ends one. -/
theorem open_words {l : List Wi} {s : ByteArray} {r : List UInt8} (h : ∀ x ∈ l, WiOk x) (hs : s.size ≤ 65536) (hd : s.data.toList = jL l ++ 10 :: (oddM.getD 27 [] ++ 10 :: r)) :
    wordsR s = ⟨30, (jL l).length + 1, []⟩ ∨ 0 ≤ Lib.index (oddM.getD 27 [] ++ 10 :: r) [42, 47] := by
  have e : oddM.getD 27 [] ++ 10 :: r = 47 :: 42 :: 32 :: 97 :: 10 :: r := rfl
  rw [e] at hd ⊢
  have hge := Lib.index_ge (32 :: 97 :: 10 :: r) [42, 47]
  by_cases hi : Lib.index (32 :: 97 :: 10 :: r) [42, 47] < 0
  · left
    rw [jL_its l h] at hd ⊢
    exact words_open (pad := [10]) hs (its_join l _ h (StopB.cons _ (by decide))) (SepOk.blank rfl) (skL_open (c := 47) (r := 42 :: 32 :: 97 :: 10 :: r) (by decide) (by simp [Lib.hasPrefix, List.isPrefixOf]) (by simp [Lib.hasPrefix, List.isPrefixOf]) hi) hd
  · right
    have s1 := index_stepK 42 (32 :: 97 :: 10 :: r)
    rw [if_neg (by simp [Lib.hasPrefix, List.isPrefixOf]), if_neg (by omega)] at s1
    have s2 := index_stepK 47 (42 :: 32 :: 97 :: 10 :: r)
    rw [if_neg (by simp [Lib.hasPrefix, List.isPrefixOf]), s1, if_neg (by omega)] at s2
    rw [s2]
    omega
section
open Go.RowKit
def oddV : Array Value := #[.string ⟨#[35]⟩, .string ⟨#[47]⟩, .string ⟨#[42]⟩, .string ⟨#[43]⟩, .string ⟨#[63]⟩, .string ⟨#[64]⟩, .string ⟨#[36]⟩, .string ⟨#[92]⟩, .string ⟨#[0]⟩, .string ⟨#[127]⟩, .string ⟨#[255]⟩, .string ⟨#[58]⟩, .string ⟨#[33]⟩, .string ⟨#[37]⟩, .string ⟨#[38]⟩, .string ⟨#[124]⟩, .string ⟨#[94]⟩, .string ⟨#[126]⟩, .string ⟨#[48, 57]⟩, .string ⟨#[48, 120]⟩, .string ⟨#[48, 120, 103]⟩, .string ⟨#[55, 97]⟩, .string ⟨#[97, 98, 99, 100, 101, 102, 103, 104, 105, 106, 107, 108, 109, 110, 111, 112, 113, 114, 115, 116, 117, 118, 119, 120, 121, 122, 97, 98, 99, 100, 101, 102, 103]⟩, .string ⟨#[50, 49, 52, 55, 52, 56, 51, 54, 52, 57]⟩, .string ⟨#[48, 50, 48, 48, 48, 48, 48, 48, 48, 48, 48, 49]⟩, .string ⟨#[39, 97]⟩, .string ⟨#[34, 92, 113, 34]⟩, .string ⟨#[47, 42, 32, 97]⟩]
theorem oddV_at (i : Nat) (h : i < 28) : oddV[i]? = some (.string ⟨(oddM.getD i []).toArray⟩) := by
  have key : ∀ m : Fin 28, oddV.toList.length = 28 := fun _ => rfl
  obtain rfl | rfl | rfl | rfl | rfl | rfl | rfl | rfl | rfl | rfl | rfl | rfl | rfl | rfl | rfl | rfl | rfl | rfl | rfl | rfl | rfl | rfl | rfl | rfl | rfl | rfl | rfl | rfl : i = 0 ∨ i = 1 ∨ i = 2 ∨ i = 3 ∨ i = 4 ∨ i = 5 ∨ i = 6 ∨ i = 7 ∨ i = 8 ∨ i = 9 ∨ i = 10 ∨ i = 11 ∨ i = 12 ∨ i = 13 ∨ i = 14 ∨ i = 15 ∨ i = 16 ∨ i = 17 ∨ i = 18 ∨ i = 19 ∨ i = 20 ∨ i = 21 ∨ i = 22 ∨ i = 23 ∨ i = 24 ∨ i = 25 ∨ i = 26 ∨ i = 27 := by omega
  all_goals rfl
theorem odd_len (n : Nat) (h : n < 28) : (oddM.getD n []).length ≤ 40 := by
  have key : ∀ m : Fin 28, (oddM.getD m.val []).length ≤ 40 := by decide +kernel
  exact key ⟨n, h⟩
def wantV : Array Value := #[.int .i64 30, .int .i64 9, .int .i64 21]
def kdN (n : Nat) : Nat := if n = 25 ∨ n = 26 then 2 else if n = 23 ∨ n = 24 then 1 else 0
def kdM (n : Nat) : Nat := if n = 23 ∨ n = 24 then 1 else 0
theorem want_at (n : Nat) : wantV[kdN n]? = some (.int .i64 (oddE n : Nat)) ∧ kdN n < 3 := by
  unfold kdN oddE
  by_cases h1 : n = 25 ∨ n = 26
  · rw [if_pos h1, if_neg (by omega), if_pos h1]; exact ⟨rfl, by omega⟩
  · rw [if_neg h1]
    by_cases h2 : n = 23 ∨ n = 24
    · rw [if_pos h2, if_pos h2]; exact ⟨rfl, by omega⟩
    · rw [if_neg h2, if_neg h2, if_neg h1]; exact ⟨rfl, by omega⟩
theorem two_any (w : World) (ta tb : TypeId) (a b : Array Value) : Blk ((w.alloc (.cells a ta)).alloc (.cells b tb)) w.heap.size ta a ∧ Blk ((w.alloc (.cells a ta)).alloc (.cells b tb)) (w.heap.size + 1) tb b ∧ Below w.heap.size w ((w.alloc (.cells a ta)).alloc (.cells b tb)) := by
  have h2 := Blk.new (w.alloc (.cells a ta)) tb b
  rw [World.size_alloc] at h2
  exact ⟨Blk.alloc (Blk.new w ta a) _, h2, ((Below.refl _ w).alloc (Nat.le_refl _) _).alloc (by simp) _⟩
theorem contains_any (s : ByteArray) (w : World) (hE : Env w) (hs : s.size ≤ 1000000) (h : 0 ≤ Lib.index s.data.toList [42, 47]) : Calls Tryz.prog 20 #[.string s, .string ⟨#[42, 47]⟩] w fun e w' => e = .returned (.bool true) ∧ w = w' := by
  obtain ⟨m, hm⟩ := hE.1
  have c := sindex_any s ⟨#[42, 47]⟩ m w hs hm
  have e1 : (⟨#[42, 47]⟩ : ByteArray).data.toList = [42, 47] := rfl
  rw [e1] at c
  generalize Lib.index s.data.toList [42, 47] = z at *
  have C := Lib.hid c
  clear c hm
  go_enter Tryz.func20, Tryz.ntmps20
  go_wp2_with fail
  refine (C.out).mono ?_
  rintro e _ ⟨rfl, rfl⟩
  go_wp2_with fail
  go_ret
  exact ⟨rfl, rfl⟩
/-- What stands in memory while the text is made. -/
structure OdR (w : World) (L : List Wi) (h2 : Nat) (u : Value) (g : Nat) (wr : World) : Prop where
  rd : RdI wr h2 u L
  odd : Blk wr g 9 oddV
  want : Blk wr (g + 1) 23 wantV
  bel : Below w.heap.size w wr
  le : h2 ≤ wr.heap.size
theorem OdR.below {w : World} {L : List Wi} {h2 g : Nat} {u : Value} {wr w' : World} (h : OdR w L h2 u g wr) (hb : Below wr.heap.size wr w') : OdR w L h2 u g w' :=
  ⟨h.rd.below hb h.le, h.odd.below hb h.odd.lt, h.want.below hb h.want.lt, h.bel.trans (hb.mono h.bel.size), by have := hb.size; have := h.le; omega⟩
theorem OdR.drew {w : World} {L : List Wi} {h2 g : Nat} {u : Value} {wr : World} (h : OdR w L h2 u g wr) : OdR w L h2 u g wr.drew := ⟨h.rd, h.odd.drew, h.want.drew, h.bel.drew, h.le⟩
theorem RdI.pre {w : World} {hi n c : Nat} {A : Option Addr} {l : List Wi} (h : RdI w hi (.slice A n c) l) (k : Nat) (hk : k ≤ l.length) : RdI w hi (.slice A k c) (l.take k) := by
  obtain ⟨A', c', e, h1, h2, h3⟩ := h
  simp only [Value.slice.injEq] at e
  obtain ⟨rfl, rfl, rfl⟩ := e
  have hl : (l.take k).length = k := by simp; omega
  refine ⟨A, c, by rw [hl], by omega, h2, fun h0 => ?_⟩
  rw [hl] at h0
  obtain ⟨g, o, hA, hg, hc⟩ := h3 (by omega)
  refine ⟨g, o, hA, hg, fun i hi' => ?_⟩
  rw [hl] at hi'
  have := hc i (by omega)
  simpa using this
theorem RdI.none_ (w : World) (hi : Nat) (A : Option Addr) (c : Nat) (hc : c ≤ maxLen) : RdI w hi (.slice A 0 c) [] := ⟨A, c, rfl, by simp, hc, by simp⟩
end
end Go.Proofs.YtoineheocipmaaaGreatDoor
