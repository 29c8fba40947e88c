/-
  WireJoins, walked.
-/
import Derived.Test.YtlckppmggklinaaRBytes
namespace Go.Proofs.Ytlckppmggklinaa
open Go.RowKit
set_option linter.unusedVariables false
attribute [local go_sem ↓] Go.wp_at_zero Go.wp_at_succ

/-- A record with at most 60 bytes each. -/
def cut60 (r : Rc) : Rc := ⟨r.num, r.wire, r.n, r.b.take 60, r.raw.take 60⟩
def jn (rs : List Rc) (i : Nat) : List Rc := (rs.take i).map cut60
theorem jn_snoc {rs : List Rc} {i : Nat} {r : Rc} (h : rs[i]? = some r) : jn rs (i + 1) = jn rs i ++ [cut60 r] := by
  unfold jn; rw [take_snoc_of h, List.map_append]; rfl
theorem jn_len (rs : List Rc) (i : Nat) : (jn rs i).length ≤ i := by unfold jn; simp; omega
theorem jn_raw (rs : List Rc) (i : Nat) : ∀ r ∈ jn rs i, r.raw.length ≤ 60 := by
  intro r hr
  obtain ⟨s, _, rfl⟩ := List.mem_map.1 hr
  simp [cut60]; omega

/-- Its bytes, cut. -/
theorem cut60_bs {w : World} {lo hi m d : Nat} {B : Option Addr} {l : List UInt8} (h : Bs w lo hi B m d l) : ∃ k : Nat, min (m : Int) 60 = (k : Int) ∧ k ≤ d ∧ k ≤ 60 ∧ Bs w lo hi B k d (l.take 60) := by
  have hl := h.len
  have hle := h.le
  by_cases hm : m ≤ 60
  · refine ⟨m, by omega, hle, hm, ?_⟩
    rw [List.take_of_length_le (by omega)]; exact h
  · exact ⟨60, by omega, by omega, by omega, h.pre (by omega)⟩

structure JRel (w : World) (rs : List Rc) (v : Value) (i : Nat) (wr : World) : Prop where
  own : OwnRecs wr w.heap.size v (jn rs i)
  bel : Below w.heap.size w wr

set_option maxRecDepth 100000 in
set_option maxHeartbeats 4000000 in
theorem joins_any {w : World} {n c : Nat} {A : Option Addr} {rs : List Rc} (hS : Rs w 0 w.heap.size A n c rs) :
    Calls Try.prog 6 #[.slice A n c] w fun e w' => e = .returned (.bool true) ∧ Below w.heap.size w w' := by
  obtain ⟨i0, hi0, hz0, hz1, hz2⟩ := info_parts Try.info34
  have hst : JRel w rs (.slice none 0 0) 0 w := ⟨⟨[], ⟨rfl, .inl ⟨rfl, rfl⟩⟩, trivial⟩, Below.refl _ _⟩
  go_enter Try.func6, Try.ntmps6
  go_wp2
  go_loopw [3, 4] (fun v j wr => ∃ i : Nat, j = .int .i64 i ∧ i ≤ n ∧ i ≤ 40 ∧ JRel w rs v i wr) (fun _ j _ => 40 - (intOf j).toNat)
  case atStart => exact ⟨0, rfl, by omega, by omega, hst⟩
  case round =>
    obtain ⟨i, rfl, hin, hi40, hrel⟩ := hrel
    clear hst
    have hbel := hrel.bel
    have hown := hrel.own
    have hwz := hbel.size
    by_cases hlt : i < n ∧ i < 40
    · obtain ⟨hlt, hlt40⟩ := hlt
      have hS' := hS.kept (.of_below hbel (Nat.le_refl _))
      obtain ⟨b, o, r, B, m, d, B', m', d', rfl, hbh, hr, hsb, hsw, g0, g1, g2, g3, g4⟩ := hS'.at_ hlt
      obtain ⟨k, hmin, hkd, hk60, hB⟩ := cut60_bs hsb
      obtain ⟨k', hmin', hkd', hk60', hB'⟩ := cut60_bs hsw
      have hCp : ∀ (W : World), Below wr.heap.size wr W → Calls Try.prog 36 #[.agg #[.int .i64 r.num, .int .i64 r.wire, .int .u64 r.n, .slice B k d, .slice B' k' d']] W (FreshRec W (cut60 r)) := fun W h => rcopy_any (r := cut60 r) (hB.below h hwz) (hB'.below h hwz) (Nat.le_trans hwz h.size) (by simp [cut60]; omega) (by simp [cut60]; omega)
      have HCp := Lib.hid hCp
      have HRR := Lib.hid hr
      have hjl := jn_len rs i
      have hi0' : (0 : Int) ≤ (i : Int) := by omega
      have hi1' : (i : Int) < (n : Int) := by omega
      have hi2' : (i : Int) < 40 := by omega
      clear hr hsb hsw hS' hrel hB hB' hCp
      go_wp2_with fail
      go_region
      all_goals
        go_wp2_with fail
        (with_reducible refine (HCp.out _ ?_).mono ?_)
        · exact ((Below.refl _ _).alloc (Nat.le_refl _) _).drew
        rintro e w1 ⟨v1, rfl, ⟨vb, vr, rfl, ob, orr⟩, hb1⟩
        have hs1 : wr.heap.size + 1 ≤ w1.heap.size := by have := hb1.size; simpa using this
        have hbw : Below wr.heap.size wr w1 := (((Below.refl _ _).alloc (Nat.le_refl _) _).drew).trans (hb1.mono (by simp))
        have hown1 := hown.below hbw
        have hor : OwnRec w1 w.heap.size (.agg #[.int .i64 (cut60 r).num, .int .i64 (cut60 r).wire, .int .u64 (cut60 r).n, vb, vr]) (cut60 r) := ⟨_, _, rfl, ob.base_ (by simp; omega), orr.base_ (by simp; omega)⟩
        obtain ⟨X, kx, cx, rfl⟩ := ob.val
        obtain ⟨Y, ky, cy, rfl⟩ := orr.val
        clear ob orr hb1
        go_wp2_with (at_builtin; refine wpList_append_rec _ rfl _ _ 44 rfl w.heap.size i0 Try.underlying44 hi0 hz0 hz1 hz2 _ (jn rs i) rfl (hown1.alloc _) _ _ _ _ _ _ (cut60 r) rfl (Blk.new _ _ _) (hor.kept (fun g u l hu hg => Below.heap_alloc _ _ _ (hu.lt hg).2)) (by omega) (by simp; omega) ?_; intro v3 w3 hown3 hgrow3)
        go_roundw
        case rel =>
          refine ⟨i + 1, by go_num, by omega, by omega, ?_, ?_⟩
          · rw [jn_snoc HRR.out]; exact hown3
          · exact ((hbel.trans (hbw.mono hwz)).alloc (by omega) _).trans (hgrow3.below (by simp; omega) (fun g hg => hown1.block hg))
        case measure => simp [intOf]; omega
    · have hraw := jn_raw rs i
      have hjl := jn_len rs i
      clear hrel
      obtain ⟨A3, c3, rfl, hrs⟩ := hown.rs
      clear hown
      obtain ⟨l, hl⟩ : ∃ l, l = jn rs i := ⟨_, rfl⟩
      rw [← hl] at hraw hjl hrs
      simp only [← hl]
      obtain ⟨N, hN⟩ : ∃ N, N = l.length := ⟨_, rfl⟩
      simp only [← hN] at hrs hjl
      simp only [← hN]
      obtain ⟨⟨E, L⟩, hE⟩ : ∃ R, R = byR l := ⟨_, rfl⟩
      have h37 := bytes_any hrs (Nat.le_refl _) (by omega) (fun r hr => by have := hraw r hr; omega)
      have h38 := fun (W : World) (h : Below wr.heap.size wr W) => rbytes_any (hrs.kept (.of_below h (Nat.le_refl _))) h.size (by omega) (fun r hr => by have := hraw r hr; omega)
      rw [← hE] at h37 h38
      have H37 := Lib.hid h37
      have H38 := Lib.hid h38
      have hee : ((E : Int) == (E : Int)) = true := by simp
      clear h37 h38 hE hl hN hraw hrs
      by_cases hn : i < n
      · have h40 : ¬ (i : Int) < 40 := by omega
        have hn' : (i : Int) < (n : Int) := by omega
        clear hlt
        go_wp2_with fail
        refine H37.out.mono ?_
        rintro e w1 ⟨v1, rfl, ho1, hb1⟩
        go_wp2_with fail
        refine (H38.out _ hb1).mono ?_
        rintro e w2 ⟨v2, rfl, ho2, hb2⟩
        simp only at ho1 ho2
        have hs1 := hb1.size
        obtain ⟨A5, k5, c5, rfl⟩ := ho1.val
        obtain ⟨A6, k6, c6, rfl⟩ := ho2.val
        have hq := eqb_any (ho1.toBs.below hb2 (Nat.le_refl _)) ho2.toBs
        rw [show (L == L) = true by simp] at hq
        have HQ := Lib.hid hq
        have hb12 := hb1.trans (hb2.mono hs1)
        clear hq ho1 ho2
        go_wp2_with fail
        refine HQ.out.mono ?_
        rintro e _ ⟨rfl, rfl⟩
        go_wp2_with fail
        refine (works_any _).mono ?_
        rintro e w3 ⟨rfl, hb3⟩
        go_wp2
        go_ret
        exact ⟨rfl, (hbel.trans (hb12.mono hwz)).trans (hb3.mono (by have := hb12.size; omega))⟩
      · have hn' : ¬ (i : Int) < (n : Int) := by omega
        clear hlt
        go_wp2_with fail
        refine H37.out.mono ?_
        rintro e w1 ⟨v1, rfl, ho1, hb1⟩
        go_wp2_with fail
        refine (H38.out _ hb1).mono ?_
        rintro e w2 ⟨v2, rfl, ho2, hb2⟩
        simp only at ho1 ho2
        have hs1 := hb1.size
        obtain ⟨A5, k5, c5, rfl⟩ := ho1.val
        obtain ⟨A6, k6, c6, rfl⟩ := ho2.val
        have hq := eqb_any (ho1.toBs.below hb2 (Nat.le_refl _)) ho2.toBs
        rw [show (L == L) = true by simp] at hq
        have HQ := Lib.hid hq
        have hb12 := hb1.trans (hb2.mono hs1)
        clear hq ho1 ho2
        go_wp2_with fail
        refine HQ.out.mono ?_
        rintro e _ ⟨rfl, rfl⟩
        go_wp2_with fail
        refine (works_any _).mono ?_
        rintro e w3 ⟨rfl, hb3⟩
        go_wp2
        go_ret
        exact ⟨rfl, (hbel.trans (hb12.mono hwz)).trans (hb3.mono (by have := hb12.size; omega))⟩
end Go.Proofs.Ytlckppmggklinaa
