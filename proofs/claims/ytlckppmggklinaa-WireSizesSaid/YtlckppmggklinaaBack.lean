/-
  WireBack, walked.
-/
import Derived.Test.YtlckppmggklinaaMade2
import Derived.Test.YtlckppmggklinaaOpenC
namespace Go.Proofs.Ytlckppmggklinaa
open Go.RowKit
set_option linter.unusedVariables false
attribute [local go_sem ↓] Go.wp_at_zero Go.wp_at_succ

/-- The record of a row. -/
def mdX (x : Rw) : Rc := mdR (1 + (brg x.num 536870911 : Nat)) (kindN (brg x.wire 4 : Nat)) (if kindN (brg x.wire 4 : Nat) = 5 then x.n % 4294967296 else x.n) (x.b.take 30) (brg x.more 4)
theorem kind_cases (i : Int) : kindN (brg i 4 : Nat) = 0 ∨ kindN (brg i 4 : Nat) = 1 ∨ kindN (brg i 4 : Nat) = 2 ∨ kindN (brg i 4 : Nat) = 5 := by
  unfold kindN
  by_cases h0 : ((brg i 4 : Nat) : Int) = 0
  · rw [if_pos h0]; omega
  by_cases h1 : ((brg i 4 : Nat) : Int) = 1
  · rw [if_neg h0, if_pos h1]; omega
  by_cases h2 : ((brg i 4 : Nat) : Int) = 2
  · rw [if_neg h0, if_neg h1, if_pos h2]; omega
  · rw [if_neg h0, if_neg h1, if_neg h2]; omega
theorem mdX_good (x : Rw) (hn : (x.n : Int) ≤ 18446744073709551615) : Good (mdX x) := by
  have l1 := brg_lt x.num 536870911 (by omega)
  unfold mdX
  refine mdR_good (by omega) (by omega) (kind_cases _) ?_ ?_ (by simp; omega)
  · split <;> omega
  · intro h; rw [if_pos h]; omega
theorem mdX_len (x : Rw) (hn : (x.n : Int) ≤ 18446744073709551615) : (mdX x).raw.length ≤ 60 := by
  have l1 := brg_lt x.num 536870911 (by omega)
  have hk := kind_cases x.wire
  unfold mdX
  generalize kindN (brg x.wire 4 : Nat) = K at *
  have hN : (if K = 5 then x.n % 4294967296 else x.n) < 2 ^ 64 := by split <;> omega
  generalize (if K = 5 then x.n % 4294967296 else x.n) = N at *
  simp only [mdR, List.length_append]
  have h1 := (lng_uv (brg x.more 4) (8 * (1 + ((brg x.num 536870911 : Nat) : Int)) + K).toNat (by omega)).2.2
  have h2 := (lng_uv (brg x.more 4) N hN).2.2
  have h3 := Lib.uvarint_length64 (x := (x.b.take 30).length) (by simp; omega)
  have : (bodyB (brg x.more 4) K N (x.b.take 30)).length ≤ 40 := by
    unfold bodyB
    split
    · omega
    split
    · rw [fixB_length]; omega
    split
    · rw [fixB_length]; omega
    · simp only [List.length_append, List.length_take] at h3 ⊢; omega
  omega

def bk (xs : List Rw) (i : Nat) : List Rc := (xs.take i).map mdX
theorem bk_snoc {xs : List Rw} {i : Nat} {x : Rw} (h : xs[i]? = some x) : bk xs (i + 1) = bk xs i ++ [mdX x] := by
  unfold bk; rw [List.take_add_one, h, List.map_append]; rfl

structure BkRel (w : World) (xs : List Rw) (v : Value) (i : Nat) (wr : World) : Prop where
  own : OwnRecs wr w.heap.size v (bk xs i)
  bel : Below w.heap.size w wr
  good : ∀ r ∈ bk xs i, Good r ∧ r.raw.length ≤ 60
  len : (bk xs i).length ≤ 40

set_option maxRecDepth 100000 in
set_option maxHeartbeats 4000000 in
theorem back_any {w : World} {n c : Nat} {A : Option Addr} {xs : List Rw} (hS : Rws w 0 w.heap.size A n c xs) :
    Calls Try.prog 7 #[.slice A n c] w fun e w' => e = .returned (.bool true) ∧ Below w.heap.size w w' := by
  obtain ⟨i0, hi0, hz0, hz1, hz2⟩ := info_parts Try.info34
  have HS := Lib.hid hS
  have hn0 := hS.2.1
  clear hS
  go_enter Try.func7, Try.ntmps7
  go_wp2_with fail
  refine (works_any _).mono ?_
  rintro e w0 ⟨rfl, hb0⟩
  have hst : BkRel w xs (.slice none 0 0) 0 w0 := ⟨⟨[], ⟨rfl, .inl ⟨rfl, rfl⟩⟩, trivial⟩, hb0, by simp [bk], by simp [bk]⟩
  go_wp2
  go_loopw [3, 4] (fun v j wr => ∃ i : Nat, j = .int .i64 i ∧ i ≤ n ∧ i ≤ 40 ∧ BkRel w xs v i wr) (fun _ j _ => 40 - (intOf j).toNat)
  case atStart => exact ⟨0, rfl, by omega, by omega, hst⟩
  case round =>
    obtain ⟨i, rfl, hin, hi40, hrel⟩ := hrel
    clear hst
    have hbel := hrel.bel
    have hown := hrel.own
    have hwz := hbel.size
    by_cases hlt : i < n ∧ i < 40
    · obtain ⟨hlt, hlt40⟩ := hlt
      obtain ⟨b, o, B, m, d, x, rfl, _, hbh, hx, hsb, hxn, g0, g1, g2, g3, g4⟩ := (HS.out.kept (.of_below hbel (Nat.le_refl _))).2.2.2 i hlt
      have hm : Calls Try.prog 39 #[.agg #[.int .i64 x.num, .int .i64 x.wire, .int .u64 x.n, .slice B m d, .int .i64 x.more]] wr (MadeP wr (mdX x)) := made_core (a := x.num) (k := x.wire) (mo := x.more) (n := x.n) hsb hwz hxn
      have hg := And.intro (mdX_good x hxn) (mdX_len x hxn)
      obtain ⟨r, hr⟩ : ∃ r, mdX x = r := ⟨_, rfl⟩
      rw [hr] at hm hg
      have HM := Lib.hid hm
      have HG := Lib.hid hg
      have HX := Lib.hid hx
      have HRR := Lib.hid hr
      have HREL := Lib.hid hrel
      have hjl := hrel.len
      have hi0' : (0 : Int) ≤ (i : Int) := by omega
      have hi1' : (i : Int) < (n : Int) := by omega
      have hi2' : (i : Int) < 40 := by omega
      clear hx hsb hrel hm hg hr
      go_wp2_with fail
      refine HM.out.mono ?_
      rintro e w1 ⟨v1, rfl, ⟨vb, vr, rfl, ob, orr⟩, hb1⟩
      obtain ⟨X, kx, cx, rfl⟩ := ob.val
      obtain ⟨Y, ky, cy, rfl⟩ := orr.val
      have hs1 := hb1.size
      have hown2 := (hown.below hb1).alloc (.cells #[.int .i64 r.num, .int .i64 r.wire, .int .u64 r.n, .slice X kx cx, .slice Y ky cy] 34)
      have hor1 : OwnRec w1 w.heap.size (.agg #[.int .i64 r.num, .int .i64 r.wire, .int .u64 r.n, .slice X kx cx, .slice Y ky cy]) r := ⟨_, _, rfl, ob.base_ hwz, orr.base_ hwz⟩
      have hor2 : OwnRec (w1.alloc (.cells #[.int .i64 r.num, .int .i64 r.wire, .int .u64 r.n, .slice X kx cx, .slice Y ky cy] 34)) w.heap.size (.agg #[.int .i64 r.num, .int .i64 r.wire, .int .u64 r.n, .slice X kx cx, .slice Y ky cy]) r := hor1.kept (fun g u l hu hg => Below.heap_alloc _ _ _ (hu.lt hg).2)
      clear ob orr hor1
      go_wp2_with (at_builtin; refine wpList_append_rec _ rfl _ _ 44 rfl w.heap.size i0 Try.underlying44 hi0 hz0 hz1 hz2 _ (bk xs i) rfl (hown2.alloc _) _ _ _ _ _ _ r rfl (Blk.new2 _ _ _ _) (hor2.kept (fun g u l hu hg => Below.heap_alloc _ _ _ (hu.lt hg).2)) (by omega) (by simp; omega) ?_; intro v3 w3 hown3 hgrow3)
      go_roundw
      case rel =>
        refine ⟨i + 1, by go_num, by omega, by omega, ?_, ?_, ?_, ?_⟩
        · rw [bk_snoc HX.out, HRR.out]; exact hown3
        · have b1 : Below w.heap.size w w1 := hbel.trans (hb1.mono hwz)
          exact ((b1.alloc (by omega) _).alloc (by simp; omega) _).trans (hgrow3.below (by simp; omega) (fun g hg => hown2.block hg))
        · intro q hq
          rw [bk_snoc HX.out, HRR.out, List.mem_append] at hq
          rcases hq with hq | hq
          · exact HREL.out.good q hq
          · simp at hq; subst hq; exact HG.out
        · rw [bk_snoc HX.out, List.length_append]
          have : (bk xs i).length ≤ i := by unfold bk; simp; omega
          simp; omega
      case measure => simp [intOf]; omega
    · have hgood := hrel.good
      have hjl := hrel.len
      clear hrel
      obtain ⟨A3, c3, rfl, hrs⟩ := hown.rs
      clear hown
      obtain ⟨l, hl⟩ : ∃ l, l = bk xs i := ⟨_, rfl⟩
      rw [← hl] at hgood hjl hrs
      simp only [← hl]
      have htot := rawCat_bound l 60 (fun r hr => (hgood r hr).2)
      have hby := byR_good (fun r hr => (hgood r hr).1)
      rw [if_neg (by omega)] at hby
      have hsp : spR (rawCat l) = (0, l) := by
        unfold spR; rw [if_neg (by omega)]; exact spL_cat l (fun r hr => (hgood r hr).1)
      obtain ⟨N, hN⟩ : ∃ N, N = l.length := ⟨_, rfl⟩
      simp only [← hN] at hrs hjl htot
      simp only [← hN]
      have hLt : (rawCat l).length ≤ 2400 := by omega
      have h37 := fun (W : World) (lo hi : Nat) (A : Option Addr) (c : Nat) (h : Rs W lo hi A N c l) (hh : hi ≤ W.heap.size) => bytes_any h hh (by omega) (fun r hr => by have := (hgood r hr).2; omega)
      have h33 := fun (W : World) (lo hi n : Nat) (A : Option Addr) (c : Nat) (h : Bs W lo hi A n c (rawCat l)) (hh : hi ≤ W.heap.size) => split_any h hh (by have := h.len; omega)
      simp only [hby] at h37
      simp only [hsp] at h33
      generalize rawCat l = RC at *
      have H37 := Lib.hid h37
      have H33 := Lib.hid h33
      have HN := Lib.hid hN
      clear h37 h33 hby hsp hl hN hgood htot
      have hcond : (¬ (i : Int) < (n : Int)) ∨ ((i : Int) < (n : Int) ∧ ¬ (i : Int) < 40) := by omega
      clear hlt
      rcases hcond with hn' | ⟨hn', h40⟩
      all_goals
        go_wp2_with fail
        refine (H37.out _ _ _ _ _ hrs (Nat.le_refl _)).mono ?_
        rintro e w1 ⟨v1, rfl, ho1, hb1⟩
        simp only at ho1
        have hs1 := hb1.size
        obtain ⟨A5, k5, c5, rfl⟩ := ho1.val
        have hrs1 := hrs.kept (.of_below hb1 (Nat.le_refl _))
        go_wp2_with fail
        refine (H33.out _ _ _ _ _ _ ho1.toBs (Nat.le_refl _)).mono ?_
        rintro e w2 ⟨A6, c6, rfl, hr6, hb2⟩
        simp only [← HN.out] at hr6
        simp only [← HN.out]
        have hs2 := hb2.size
        have hb12 := hb1.trans (hb2.mono hs1)
        go_wp2_with fail
        refine (H37.out _ _ _ _ _ hr6 (Nat.le_refl _)).mono ?_
        rintro e w3 ⟨v3, rfl, ho3, hb3⟩
        simp only at ho3
        have hs3 := hb3.size
        obtain ⟨A7, k7, c7, rfl⟩ := ho3.val
        have hb13 := hb12.trans (hb3.mono (by omega))
        have hls := lsame_any (hrs.kept (.of_below hb13 (Nat.le_refl _))) (hr6.kept (.of_below hb3 (Nat.le_refl _))) (by omega) (by omega) (by omega)
        have HLS := Lib.hid hls
        have HB1 := Lib.hid (ho1.toBs.below (hb2.trans (hb3.mono hs2)) (Nat.le_refl _))
        have HB3 := Lib.hid ho3.toBs
        clear hls hrs hrs1 hr6 ho1 ho3
        go_wp2_with fail
        refine HLS.out.mono ?_
        rintro e w4 ⟨rfl, hb4⟩
        have hq := eqb_any (HB1.out.below hb4 (by omega)) (HB3.out.below hb4 (Nat.le_refl _))
        rw [show (RC == RC) = true by simp] at hq
        have HQ := Lib.hid hq
        clear hq
        go_wp2_with fail
        refine HQ.out.mono ?_
        rintro e _ ⟨rfl, rfl⟩
        go_wp2
        go_ret
        exact ⟨rfl, (hbel.trans (hb13.mono hwz)).trans (hb4.mono (by omega))⟩
end Go.Proofs.Ytlckppmggklinaa
