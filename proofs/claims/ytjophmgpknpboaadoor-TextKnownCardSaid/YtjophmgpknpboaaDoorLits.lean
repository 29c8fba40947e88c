/-
  reads, none; the calls of works, each with its answer.
-/
import Derived.Test.YtjophmgpknpboaaDoorUnq3
import Derived.Test.YtjophmgpknpboaaDoorRunes
import Derived.Test.YtjophmgpknpboaaDoorQuote
import Derived.Test.YtjophmgpknpboaaDoorFull
namespace Go.Proofs.YtjophmgpknpboaaDoor
open Go.RowKit
set_option linter.unusedVariables false
set_option linter.unusedSimpArgs false

theorem OwnI.base_ {w : World} {base base' : Nat} {v : Value} {l : List Int} (h : OwnI w base v l) (hb : base' ≤ base) : OwnI w base' v l := by
  refine ⟨h.1, ?_⟩
  rcases h.2 with h | ⟨g, cap, cur, rfl, hg, r⟩
  · exact .inl h
  · exact .inr ⟨g, cap, cur, rfl, by omega, r⟩

set_option maxRecDepth 100000 in
set_option maxHeartbeats 1000000 in
theorem reads_yes {w : World} {lo hi n c : Nat} {A : Option Addr} {l : List UInt8} (s : ByteArray) (hB : Bs w lo hi A n c l) (hhi : hi ≤ w.heap.size) (hs : s.size ≤ 1000000) (h : unqL s.data.toList = some l) :
    Calls Tryd.prog 39 #[.string s, .slice A n c] w fun e w' => e = .returned (.bool true) ∧ Below w.heap.size w w' := by
  have hu := fun W => unquote_any s W hs
  rw [h] at hu
  have HU := Lib.hid hu
  clear hu
  go_enter Tryd.func39, Tryd.ntmps39
  go_wp2_with fail
  refine (HU.out _).mono ?_
  rintro e w1 ⟨v, rfl, ho, hb⟩
  obtain ⟨A1, k1, c1, rfl⟩ := ho.val
  have heq := fun W (hW : W = w1) => eqb_any (w := W) (hW ▸ ho.toBs) (hW ▸ hB.below hb hhi)
  have HE := Lib.hid heq
  have HB := Lib.hid hb
  clear heq hb ho hB
  go_wp2_with fail
  refine (HE.out _ rfl).mono ?_
  rintro e w2 ⟨rfl, rfl⟩
  go_wp2_with fail
  go_ret
  exact ⟨ret_bool (by simp [ansR]), HB.out⟩

set_option maxRecDepth 100000 in
set_option maxHeartbeats 1000000 in
theorem none_yes {w : World} (s : ByteArray) (hs : s.size ≤ 1000000) (h : unqL s.data.toList = none) :
    Calls Tryd.prog 40 #[.string s] w fun e w' => e = .returned (.bool true) ∧ Below w.heap.size w w' := by
  have hu := fun W => unquote_any s W hs
  rw [h] at hu
  have HU := Lib.hid hu
  clear hu
  go_enter Tryd.func40, Tryd.ntmps40
  go_wp2_with fail
  refine (HU.out _).mono ?_
  rintro e w1 ⟨v, rfl, ho, hb⟩
  obtain ⟨A1, c1, rfl, _⟩ := ho.bs
  have HB := Lib.hid hb
  clear hb ho
  go_wp2_with fail
  go_ret
  exact ⟨rfl, HB.out⟩

theorem lit_valid (W : World) (zs : List Int) (b : Bool) (h1 : ∀ z ∈ zs, 0 ≤ z ∧ z < 256) (hl : zs.length ≤ 1000) (hb : decide (bkL 0 (zs.map fun z => UInt8.ofNat z.toNat) < 0) = b) :
    Calls Tryd.prog 19 #[.slice (some ⟨W.heap.size, 0, none⟩) zs.length zs.length] (W.alloc (.cells (zs.map (Value.int .u8)).toArray 5)) fun e w' => e = .returned (.bool b) ∧ Below W.heap.size W w' := by
  refine (valid_any (Bs.ints W zs h1 hl) (by omega)).mono ?_
  rw [hb]
  rintro e w' ⟨h, h'⟩
  exact ⟨h, ((Below.refl _ _).alloc (Nat.le_refl _) _).trans (h'.mono (by simp))⟩

theorem lit_runes (W : World) : Calls Tryd.prog 13 #[.slice (some ⟨W.heap.size, 0, none⟩) 4 4] (W.alloc (.cells #[.int .u8 65, .int .u8 226, .int .u8 130, .int .u8 172] 5)) fun e w' => ∃ v, e = .returned (.tuple #[v, .int .i64 0, .int .i64 0]) ∧ OwnI w' W.heap.size v [65, 8364] ∧ Below W.heap.size W w' := by
  refine (runes_any (Bs.ints W [65, 226, 130, 172] (by decide) (by decide)) (by decide)).mono ?_
  rintro e w' ⟨v, h1, h2, h3⟩
  have e1 : rusR (([65, 226, 130, 172] : List Int).map fun z => UInt8.ofNat z.toNat) = (0, 0, [65, 8364]) := by decide +kernel
  rw [e1] at h1 h2
  exact ⟨v, h1, OwnI.base_ h2 (by simp), ((Below.refl _ _).alloc (Nat.le_refl _) _).trans (h3.mono (by simp))⟩
theorem lit_rune (W : World) : Calls Tryd.prog 15 #[.slice none 0 0, .int .i64 128512] W (BytesP W (0, [240, 159, 152, 128])) := by
  have := rune_any (w := W) 128512 (Bs.none_ W 0 0 none (c := 0) (by decide)) (by omega) (by omega)
  have e1 : ruR [] 128512 = (0, [240, 159, 152, 128]) := by decide +kernel
  rw [e1] at this
  exact this
theorem lit_rune2 (W : World) : Calls Tryd.prog 15 #[.slice none 0 0, .int .i64 55296] W (BytesP W (20, [])) := by
  have := rune_any (w := W) 55296 (Bs.none_ W 0 0 none (c := 0) (by decide)) (by omega) (by omega)
  have e1 : ruR [] 55296 = (20, []) := by decide +kernel
  rw [e1] at this
  exact this
theorem lit_ident (W : World) (s : ByteArray) (b : Bool) (hs : s.size ≤ 1000) (h : identL s.data.toList = b) : Calls Tryd.prog 22 #[.string s] W fun e w' => e = .returned (.bool b) ∧ W = w' := by
  have := isIdent_any s W (by unfold maxLen; omega)
  rw [h] at this
  exact this
theorem lit_full (W : World) (m : Int) (s : ByteArray) (b : Bool) (hs : s.size ≤ 1000) (h : fullS s = b) (hm : W.cell? ⟨0, 0, none⟩ = some (.int .i64 m)) : Calls Tryd.prog 24 #[.string s] W fun e w' => e = .returned (.bool b) ∧ Below W.heap.size W w' := by
  have := isFull_any s W m (by omega) hm
  rw [h] at this
  exact this
theorem lit_key (W : World) (s : ByteArray) (r : Array UInt8) (hs : s.size ≤ 1000) (h : keyF false s.data.toList = r.toList) : Calls Tryd.prog 26 #[.string s] W fun e w' => e = .returned (.string ⟨r⟩) ∧ Below W.heap.size W w' := by
  have := key_any s W (by omega)
  rw [h] at this
  exact this
theorem lit_quote (W : World) : Calls Tryd.prog 30 #[.slice (some ⟨W.heap.size, 0, none⟩) 4 4] (W.alloc (.cells #[.int .u8 97, .int .u8 34, .int .u8 0, .int .u8 255] 5)) fun e w' => e = .returned (.string ⟨#[34, 97, 92, 34, 92, 48, 48, 48, 92, 51, 55, 55, 34]⟩) ∧ Below W.heap.size W w' := by
  refine (quote_any (Bs.ints W [97, 34, 0, 255] (by decide) (by decide)) (by simp) (by decide)).mono ?_
  rintro e w' ⟨h1, h3⟩
  have e1 : qtL (([97, 34, 0, 255] : List Int).map fun z => UInt8.ofNat z.toNat) = [34, 97, 92, 34, 92, 48, 48, 48, 92, 51, 55, 55, 34] := by decide +kernel
  rw [e1] at h1
  exact ⟨h1, ((Below.refl _ _).alloc (Nat.le_refl _) _).trans (h3.mono (by simp))⟩
theorem lit_reads (W : World) : Calls Tryd.prog 39 #[.string ⟨#[39, 97, 92, 120, 52, 97, 92, 49, 48, 49, 92, 117, 50, 48, 65, 67, 39]⟩, .slice (some ⟨W.heap.size, 0, none⟩) 6 6] (W.alloc (.cells #[.int .u8 97, .int .u8 74, .int .u8 65, .int .u8 226, .int .u8 130, .int .u8 172] 5)) fun e w' => e = .returned (.bool true) ∧ Below W.heap.size W w' := by
  refine (reads_yes ⟨#[39, 97, 92, 120, 52, 97, 92, 49, 48, 49, 92, 117, 50, 48, 65, 67, 39]⟩ (Bs.ints W [97, 74, 65, 226, 130, 172] (by decide) (by decide)) (by simp) (by decide) (by decide +kernel)).mono ?_
  rintro e w' ⟨h1, h3⟩
  exact ⟨h1, ((Below.refl _ _).alloc (Nat.le_refl _) _).trans (h3.mono (by simp))⟩
theorem lit_none1 (W : World) : Calls Tryd.prog 40 #[.string ⟨#[34, 97, 39]⟩] W fun e w' => e = .returned (.bool true) ∧ Below W.heap.size W w' := none_yes _ (by decide) (by decide +kernel)
theorem lit_none2 (W : World) : Calls Tryd.prog 40 #[.string ⟨#[34, 92, 52, 48, 48, 34]⟩] W fun e w' => e = .returned (.bool true) ∧ Below W.heap.size W w' := none_yes _ (by decide) (by decide +kernel)
end Go.Proofs.YtjophmgpknpboaaDoor
