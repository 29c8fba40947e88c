/-
  lex: Join, and the document's answer.
-/
import Derived.Test.YtoineheocipmaaaGreatDoorLexI
import Derived.Test.YtoineheocipmaaaGreatDoorBld
import Derived.Test.YtoineheocipmaaaGreatDoorQuote
import Derived.Test.YtoineheocipmaaaGreatDoorLexPM
namespace Go.Proofs.YtoineheocipmaaaGreatDoor
open Go.RowKit
set_option linter.unusedVariables false
set_option linter.unusedSimpArgs false

theorem str_add (a b : ByteArray) (h : a.size + b.size ≤ 1000000000) : ∃ c : ByteArray, (∀ W, (Op.stringOp .add a b).run Tryz.prog W = .ok (.string c) W) ∧ c.data.toList = a.data.toList ++ b.data.toList :=
  ⟨a ++ b, fun W => run_string_add_sum W _ _ (by omega), by simp⟩
theorem conv_bytes (s : ByteArray) (W : World) (hs : s.size ≤ 1000000) : ∃ c, (convert 9 42 (.string s)).run Tryz.prog W = .ok (.slice (some ⟨W.heap.size, 0, none⟩) s.size c) (Lib.bytesWorld W 5 s) ∧
    Bs (Lib.bytesWorld W 5 s) W.heap.size (W.heap.size + 1) (some ⟨W.heap.size, 0, none⟩) s.size c s.data.toList := by
  refine ⟨_, Lib.run_convert_string_bytes (P := Tryz.prog) W 9 42 5 s Tryz.underlying9 Tryz.underlying42 Tryz.underlying5, by simp, ?_, ?_, fun h => ⟨W.heap.size, 0, rfl, Nat.le_refl _, by omega, fun j hj => ?_⟩⟩
  · exact grownCap_ge _ _ _ _
  · exact grownCap_le_maxLen _ _ _ _ (by unfold maxLen; omega)
  · have hj' : j < s.size := by simpa using hj
    have := Lib.bytesWorld_cell W 5 s j hj'
    rw [Nat.zero_add, this, List.getD, List.getElem?_eq_getElem hj]
    rfl
/-- How a word is spelt. -/
def spW (x : Wi) : List UInt8 := if x.k = 3 then qtL x.t.data.toList else x.t.data.toList
def jnA (acc t : List UInt8) : List UInt8 := if t = [] then acc else if acc = [] then t else acc ++ 32 :: t
/-- Words, joined. -/
def jL (l : List Wi) : List UInt8 := l.foldl (fun a x => jnA a (spW x)) []
theorem jL_snoc (l : List Wi) (x : Wi) : jL (l ++ [x]) = jnA (jL l) (spW x) := by simp [jL]
theorem jnA_len (a t : List UInt8) : (jnA a t).length ≤ a.length + t.length + 1 := by
  unfold jnA
  split
  · omega
  · split
    · omega
    · simp; omega
theorem spW_len (x : Wi) : (spW x).length ≤ 4 * x.t.size + 2 := by
  unfold spW
  split
  · have := qin_len x.t.data.toList
    simp [qtL] at this ⊢
    omega
  · have : x.t.data.toList.length = x.t.size := by simp
    omega
theorem jL_len : ∀ (l : List Wi) (h : ∀ x ∈ l, x.t.size ≤ 1000), (jL l).length ≤ l.length * 4003 := by
  intro l h
  have key : ∀ (l : List Wi) (a : List UInt8), (∀ x ∈ l, x.t.size ≤ 1000) → (l.foldl (fun a x => jnA a (spW x)) a).length ≤ a.length + l.length * 4003 := by
    intro l
    induction l with
    | nil => intro a _; simp
    | cons x l ih =>
      intro a hx
      have h1 := ih (jnA a (spW x)) (fun y hy => hx y (by simp [hy]))
      have h2 := jnA_len a (spW x)
      have h3 := spW_len x
      have h4 := hx x (by simp)
      simp only [List.foldl_cons, List.length_cons]
      omega
  have := key l [] h
  simpa [jL] using this
theorem take_snoc_i {l : List Wi} {i : Nat} (h : i < l.length) : l.take (i + 1) = l.take i ++ [l[i]] := List.take_succ_eq_append_getElem h
structure JpR (w : World) (hi : Nat) (v : Value) (l : List Wi) (i : Nat) (wr : World) : Prop where
  rd : RdI wr hi v l
  bel : Below w.heap.size w wr
  bld : Bldr w.heap.size w.heap.size (jL (l.take i)) wr
theorem Bldr.below {w w' : World} {B b : Nat} {l : List UInt8} (h : Bldr B b l w) (hb : Below w.heap.size w w') : Bldr B b l w' := by
  have key : ∀ p, Lib.BuilderAt 100 5 B b p (Lib.byteCells l) w → Lib.BuilderAt 100 5 B b p (Lib.byteCells l) w' := by
    rintro p ⟨h1, v, h2, h3, h4⟩
    have hlt : b < w.heap.size := by
      rcases Nat.lt_or_ge b w.heap.size with h | h
      · exact h
      · rw [Array.getElem?_eq_none h] at h2; cases h2
    refine ⟨h1, v, by rw [hb.block b hlt]; exact h2, ?_, h4⟩
    have hl : (Lib.byteCells l).length = l.length := Lib.byteCells_length l
    rw [hl] at h3 ⊢
    have h3' : Own w B v l := h3
    exact h3'.kept fun g hg => hb.block g (h3'.lt hg).2
  rcases h with h | h
  · exact .inl (key _ h)
  · exact .inr (key _ h)
set_option maxRecDepth 100000 in
set_option maxHeartbeats 1000000 in
theorem join_any (l : List Wi) (hi : Nat) (v : Value) (w : World) (hv : RdI w hi v l) (hhi : hi ≤ w.heap.size) (hl : l.length ≤ 200) (hs : ∀ x ∈ l, x.t.size ≤ 1000) :
    Calls Tryz.prog 18 #[v] w (StrP w (jL l)) := by
  obtain ⟨A, c, rfl, hlc, _, _⟩ := id hv
  have HV := Lib.hid hv
  have HHS := Lib.hid hs
  clear hs hv
  go_enter Tryz.func18, Tryz.ntmps18
  go_wp2_with fail
  have hst : JpR w hi (.slice A l.length c) l 0 (w.alloc (.cells #[.pointer none, .slice none 0 0] 100)) := by
    refine ⟨HV.out.below ((Below.refl w.heap.size w).alloc (Nat.le_refl _) _) hhi, (Below.refl _ _).alloc (Nat.le_refl _) _, .inl ⟨Nat.le_refl _, .slice none 0 0, heap_alloc_new w _, ⟨rfl, .inl ⟨rfl, rfl⟩⟩, by simp [Value.ownBlock]⟩⟩
  have HST := Lib.hid hst
  have HHI := Lib.hid hhi
  clear hst
  go_loopg [9] l.length (fun g v9 wr => ∃ i : Nat, i ≤ l.length ∧ g = l.length - i ∧ v9 = .int .i64 i ∧ JpR w hi (.slice A l.length c) l i wr)
  case atStart => exact ⟨0, by omega, rfl, rfl, HST.out⟩
  case round =>
    obtain ⟨i, hi1, rfl, rfl, hr⟩ := hrel
    have HR := Lib.hid hr
    by_cases hil : i < l.length
    · obtain ⟨A', c', he, _, _, hc⟩ := hr.rd
      obtain ⟨g, o, hA, hg, hcs⟩ := hc (by omega)
      simp only [Value.slice.injEq, true_and] at he
      obtain ⟨rfl, rfl⟩ := he
      subst hA
      obtain ⟨q0, q1, q2, q3⟩ := hcs i hil
      have hil' : (i : Int) < (l.length : Int) := by omega
      have htk := take_snoc_i hil
      have hsz := HHS.out l[i] (List.getElem_mem hil)
      have hjl := jL_len (l.take i) (fun x hx => HHS.out x (List.take_subset _ _ hx))
      have hlt : (l.take i).length = i := by simp; omega
      have hjm : (jL (l.take i)).length ≤ 900000 := by omega
      generalize hx : l[i] = x at *
      have HTK := Lib.hid htk
      clear hr hc hcs htk hjl hlt
      by_cases hk : x.k = 3
      · have hk' : (x.k == 3) = true := by simpa using hk
        have hsp : spW x = qtL x.t.data.toList := by unfold spW; rw [if_pos hk]
        have hsl2 := spW_len x
        go_upto_region 7 with fail
        have hb1 := (Below.refl wr.heap.size wr).alloc (Nat.le_refl _) (.cells #[.int .i64 3, .int .i64 x.p, .string x.t, .int .i64 x.n] 33)
        generalize wr.alloc (.cells #[.int .i64 3, .int .i64 x.p, .string x.t, .int .i64 x.n] 33) = W1 at *
        obtain ⟨cc, hcv, hbs⟩ := conv_bytes x.t W1 (by omega)
        have hbb := below_bytes W1 x.t
        have hq := quote_any hbs (by rw [Lib.bytesWorld_size]; exact Nat.le_refl _) (by omega)
        rw [← hsp] at hq
        generalize Lib.bytesWorld W1 5 x.t = wb at *
        have HQ := Lib.hid hq
        have HBB := Lib.hid (hb1.trans (hbb.mono hb1.size))
        clear hq hbs hbb hsp hk hb1
        go_wp2_with fail
        refine (HQ.out).mono ?_
        rintro e W2 ⟨rfl, hb2⟩
        have HB2 := Lib.hid (HBB.out.trans (hb2.mono HBB.out.size))
        have HBE := Lib.hid (show RdI W2 hi (.slice (some ⟨g, o, none⟩) l.length c) l ∧ Below w.heap.size w W2 ∧ Bldr w.heap.size w.heap.size (jL (l.take i)) W2 from
          ⟨HR.out.rd.below HB2.out (by have := HR.out.bel.size; omega), HR.out.bel.trans (HB2.out.mono HR.out.bel.size), HR.out.bld.below HB2.out⟩)
        obtain ⟨T, hT⟩ : ∃ T : ByteArray, T = ⟨(spW x).toArray⟩ := ⟨_, rfl⟩
        have hTs : T.size ≤ 5000 := by rw [hT]; show (spW x).length ≤ 5000; omega
        have HSP := Lib.hid (show T.data.toList = spW x by rw [hT])
        rw [← hT]
        clear hb2 hT HB2 HBB HQ hcv
        go_upto_region 8 with fail
        by_cases ht0 : T.size = 0
        · have et : T.toList = [] := by rw [Lib.toList_data]; exact List.eq_nil_of_length_eq_zero (by simpa using ht0)
          have et2 : T.toList.isEmpty = true := by rw [et]; rfl
          have hjn : jL (l.take (i + 1)) = jL (l.take i) := by
            rw [HTK.out, jL_snoc, ← HSP.out, ← Lib.toList_data, et]
            rfl
          have HF := Lib.hid (JpR.mk (i := i + 1) HBE.out.1 HBE.out.2.1 (by rw [hjn]; exact HBE.out.2.2))
          clear hjn
          go_wp2_with fail
          go_roundg (l.length - (i + 1))
          case measure => omega
          case rel => exact ⟨i + 1, by omega, rfl, by go_num, HF.out⟩
        · have et : ¬ T.toList = [] := by
            intro h
            rw [Lib.toList_data] at h
            exact ht0 (by have := congrArg List.length h; simpa using this)
          have et2 : T.toList.isEmpty = false := by simpa using et
          have et3 : ¬ spW x = [] := by rw [← HSP.out, ← Lib.toList_data]; exact et
          have hln := fun (W : World) (h : Bldr w.heap.size w.heap.size (jL (l.take i)) W) => Tryz.Builder_Len w.heap.size w.heap.size _ W h
          rw [Lib.byteCells_length] at hln
          have HLN := Lib.hid hln
          have hw2 : w.heap.size ≤ W2.heap.size := HBE.out.2.1.size
          clear hln
          by_cases hs0 : (jL (l.take i)).length = 0
          · have hjn : jL (l.take (i + 1)) = jL (l.take i) ++ T.data.toList := by
              rw [HTK.out, jL_snoc, List.eq_nil_of_length_eq_zero hs0]
              unfold jnA
              rw [if_neg et3, if_pos rfl, HSP.out]
              rfl
            have HJN := Lib.hid hjn
            have hs1 : ¬ (0 : Int) < ((jL (l.take i)).length : Int) := by omega
            clear hjn
            go_wp2_with fail
            refine (HLN.out _ HBE.out.2.2).mono ?_
            rintro e _ ⟨rfl, rfl⟩
            go_wp2_with fail
            refine (writeString_any w.heap.size w.heap.size _ T _ HBE.out.2.2 (by omega) hw2).mono ?_
            rintro e w4 ⟨rfl, hb4, hb5⟩
            have HF := Lib.hid (JpR.mk (i := i + 1) (HBE.out.1.below hb5 HHI.out) (HBE.out.2.1.trans hb5) (by rw [HJN.out]; exact hb4))
            clear hb4 hb5
            go_wp2_with fail
            go_roundg (l.length - (i + 1))
            case measure => omega
            case rel => exact ⟨i + 1, by omega, rfl, by go_num, HF.out⟩
          · have hne : ¬ jL (l.take i) = [] := fun h => hs0 (by rw [h]; rfl)
            have hjn : jL (l.take (i + 1)) = jL (l.take i) ++ [32] ++ T.data.toList := by
              rw [HTK.out, jL_snoc]
              unfold jnA
              rw [if_neg et3, if_neg hne, HSP.out]
              simp
            have HJN := Lib.hid hjn
            have hs1 : (0 : Int) < ((jL (l.take i)).length : Int) := by omega
            clear hjn
            go_wp2_with fail
            refine (HLN.out _ HBE.out.2.2).mono ?_
            rintro e _ ⟨rfl, rfl⟩
            go_wp2_with fail
            refine (writeByte_any w.heap.size w.heap.size _ 32 _ HBE.out.2.2 (by omega) hw2).mono ?_
            rintro e w3 ⟨rfl, hb3, hbe3⟩
            have HB3 := Lib.hid hb3
            have HBE3 := Lib.hid (HBE.out.2.1.trans hbe3)
            have HRD3 := Lib.hid (HBE.out.1.below hbe3 HHI.out)
            have hw3 : w.heap.size ≤ w3.heap.size := HBE3.out.size
            clear hb3 hbe3
            go_wp2_with fail
            refine (writeString_any w.heap.size w.heap.size _ T _ HB3.out (by simp; omega) hw3).mono ?_
            rintro e w4 ⟨rfl, hb4, hb5⟩
            have HF := Lib.hid (JpR.mk (i := i + 1) (HRD3.out.below hb5 HHI.out) (HBE3.out.trans hb5) (by rw [HJN.out]; exact hb4))
            clear hb4 hb5
            go_wp2_with fail
            go_roundg (l.length - (i + 1))
            case measure => omega
            case rel => exact ⟨i + 1, by omega, rfl, by go_num, HF.out⟩
      · have hk' : (x.k == 3) = false := by simpa using hk
        have HSP := Lib.hid (show x.t.data.toList = spW x by unfold spW; rw [if_neg hk])
        clear hk
        go_upto_region 8 with fail
        have hb1 := (Below.refl wr.heap.size wr).alloc (Nat.le_refl _) (.cells #[.int .i64 x.k, .int .i64 x.p, .string x.t, .int .i64 x.n] 33)
        generalize wr.alloc (.cells #[.int .i64 x.k, .int .i64 x.p, .string x.t, .int .i64 x.n] 33) = W2 at *
        have HBE := Lib.hid (show RdI W2 hi (.slice (some ⟨g, o, none⟩) l.length c) l ∧ Below w.heap.size w W2 ∧ Bldr w.heap.size w.heap.size (jL (l.take i)) W2 from
          ⟨HR.out.rd.below hb1 (by have := HR.out.bel.size; omega), HR.out.bel.trans (hb1.mono HR.out.bel.size), HR.out.bld.below hb1⟩)
        clear hb1
        by_cases ht0 : x.t.size = 0
        · have et : x.t.toList = [] := by rw [Lib.toList_data]; exact List.eq_nil_of_length_eq_zero (by simpa using ht0)
          have et2 : x.t.toList.isEmpty = true := by rw [et]; rfl
          have hjn : jL (l.take (i + 1)) = jL (l.take i) := by
            rw [HTK.out, jL_snoc, ← HSP.out, ← Lib.toList_data, et]
            rfl
          have HF := Lib.hid (JpR.mk (i := i + 1) HBE.out.1 HBE.out.2.1 (by rw [hjn]; exact HBE.out.2.2))
          clear hjn
          go_wp2_with fail
          go_roundg (l.length - (i + 1))
          case measure => omega
          case rel => exact ⟨i + 1, by omega, rfl, by go_num, HF.out⟩
        · have et : ¬ x.t.toList = [] := by
            intro h
            rw [Lib.toList_data] at h
            exact ht0 (by have := congrArg List.length h; simpa using this)
          have et2 : x.t.toList.isEmpty = false := by simpa using et
          have et3 : ¬ spW x = [] := by rw [← HSP.out, ← Lib.toList_data]; exact et
          have hln := fun (W : World) (h : Bldr w.heap.size w.heap.size (jL (l.take i)) W) => Tryz.Builder_Len w.heap.size w.heap.size _ W h
          rw [Lib.byteCells_length] at hln
          have HLN := Lib.hid hln
          have hw2 : w.heap.size ≤ W2.heap.size := HBE.out.2.1.size
          clear hln
          by_cases hs0 : (jL (l.take i)).length = 0
          · have hjn : jL (l.take (i + 1)) = jL (l.take i) ++ x.t.data.toList := by
              rw [HTK.out, jL_snoc, List.eq_nil_of_length_eq_zero hs0]
              unfold jnA
              rw [if_neg et3, if_pos rfl, HSP.out]
              rfl
            have HJN := Lib.hid hjn
            have hs1 : ¬ (0 : Int) < ((jL (l.take i)).length : Int) := by omega
            clear hjn
            go_wp2_with fail
            refine (HLN.out _ HBE.out.2.2).mono ?_
            rintro e _ ⟨rfl, rfl⟩
            go_wp2_with fail
            refine (writeString_any w.heap.size w.heap.size _ x.t _ HBE.out.2.2 (by omega) hw2).mono ?_
            rintro e w4 ⟨rfl, hb4, hb5⟩
            have HF := Lib.hid (JpR.mk (i := i + 1) (HBE.out.1.below hb5 HHI.out) (HBE.out.2.1.trans hb5) (by rw [HJN.out]; exact hb4))
            clear hb4 hb5
            go_wp2_with fail
            go_roundg (l.length - (i + 1))
            case measure => omega
            case rel => exact ⟨i + 1, by omega, rfl, by go_num, HF.out⟩
          · have hne : ¬ jL (l.take i) = [] := fun h => hs0 (by rw [h]; rfl)
            have hjn : jL (l.take (i + 1)) = jL (l.take i) ++ [32] ++ x.t.data.toList := by
              rw [HTK.out, jL_snoc]
              unfold jnA
              rw [if_neg et3, if_neg hne, HSP.out]
              simp
            have HJN := Lib.hid hjn
            have hs1 : (0 : Int) < ((jL (l.take i)).length : Int) := by omega
            clear hjn
            go_wp2_with fail
            refine (HLN.out _ HBE.out.2.2).mono ?_
            rintro e _ ⟨rfl, rfl⟩
            go_wp2_with fail
            refine (writeByte_any w.heap.size w.heap.size _ 32 _ HBE.out.2.2 (by omega) hw2).mono ?_
            rintro e w3 ⟨rfl, hb3, hbe3⟩
            have HB3 := Lib.hid hb3
            have HBE3 := Lib.hid (HBE.out.2.1.trans hbe3)
            have HRD3 := Lib.hid (HBE.out.1.below hbe3 HHI.out)
            have hw3 : w.heap.size ≤ w3.heap.size := HBE3.out.size
            clear hb3 hbe3
            go_wp2_with fail
            refine (writeString_any w.heap.size w.heap.size _ x.t _ HB3.out (by simp; omega) hw3).mono ?_
            rintro e w4 ⟨rfl, hb4, hb5⟩
            have HF := Lib.hid (JpR.mk (i := i + 1) (HRD3.out.below hb5 HHI.out) (HBE3.out.trans hb5) (by rw [HJN.out]; exact hb4))
            clear hb4 hb5
            go_wp2_with fail
            go_roundg (l.length - (i + 1))
            case measure => omega
            case rel => exact ⟨i + 1, by omega, rfl, by go_num, HF.out⟩
    · obtain rfl : i = l.length := by omega
      clear hr
      go_wp2_with fail
      refine (Tryz.Builder_String_any w.heap.size w.heap.size (jL (l.take l.length)) _ HR.out.bld HR.out.bel.size).mono ?_
      rintro e w2 ⟨rfl, hb2⟩
      have HB := Lib.hid (HR.out.bel.trans hb2)
      clear hb2
      rw [List.take_length]
      go_wp2_with fail
      go_ret
      exact ⟨rfl, HB.out⟩
end Go.Proofs.YtoineheocipmaaaGreatDoor
