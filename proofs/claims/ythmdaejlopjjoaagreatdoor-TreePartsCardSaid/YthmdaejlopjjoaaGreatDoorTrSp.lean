/-
  The law's texts out of numbers: words with blanks, or other things, between them.
-/
import Derived.Test.YthmdaejlopjjoaaGreatDoorTrBm
import Derived.Test.YthmdaejlopjjoaaGreatDoorQmA
import Derived.Test.YthmdaejlopjjoaaGreatDoorPaA
import Derived.Outline
namespace Go.Proofs.YthmdaejlopjjoaaGreatDoor
open Go.RowKit
set_option linter.unusedVariables false
set_option linter.unusedSimpArgs false

/-- Bring. -/
def brg (i : Int) (n : Nat) : Nat := (if i.tmod n < 0 then i.tmod n + n else i.tmod n).toNat
theorem brg_lt (i : Int) (n : Nat) (h : 0 < n) : brg i n < n := by
  unfold brg
  have h1 := Int.tmod_lt_of_pos i (show (0 : Int) < n by omega)
  split <;> omega
theorem brg_eq (i : Int) (n : Nat) (h : 0 < n) : (if i.tmod n < 0 then i.tmod n + n else i.tmod n) = (brg i n : Int) := by
  unfold brg
  have h1 := Int.lt_tmod_of_pos i (show (0 : Int) < n by omega)
  split <;> omega
set_option maxRecDepth 100000 in
theorem bring_any (i : Int) (n : Nat) (w : World) (h : 0 < n) (h2 : n ≤ 4611686018427387904) :
    Calls Tryz.prog 52 #[.int .i64 i, .int .i64 n] w fun e w' => e = .returned (.int .i64 (brg i n : Nat)) ∧ w = w' := by
  have h1 := Int.tmod_lt_of_pos i (show (0 : Int) < n by omega)
  have h3 := Int.lt_tmod_of_pos i (show (0 : Int) < n by omega)
  have e := brg_eq i n h
  have hn0 : ((n : Int) == 0) = false := by simp; omega
  have hw : IntKind.i64.wrap (i.tmod n) = i.tmod n := by rw [IntKind.wrap_i64]; omega
  have hw2 : wrap64 (i.tmod n) = i.tmod n := IntWalk.wrap64_in _ ⟨by omega, by omega⟩
  generalize brg i n = B at *
  have HE := Lib.hid e
  clear e
  by_cases hneg : i.tmod n < 0
  · go_enter Tryz.func52, Tryz.ntmps52
    go_wp2
    go_ret
    have := HE.out
    rw [if_pos hneg] at this
    exact ⟨ret_int (by simpa using this), rfl⟩
  · go_enter Tryz.func52, Tryz.ntmps52
    go_wp2
    go_ret
    have := HE.out
    rw [if_neg (by omega)] at this
    exact ⟨ret_int (by simpa using this), rfl⟩
theorem str_add (a b : ByteArray) (h : a.size + b.size ≤ 1000000000) : ∃ c : ByteArray, (∀ W, (Op.stringOp .add a b).run Tryz.prog W = .ok (.string c) W) ∧ c.data.toList = a.data.toList ++ b.data.toList :=
  ⟨a ++ b, fun W => run_string_add_sum W _ _ (by omega), by simp⟩
/-- A list of numbers that can be read. -/
def RdN (w : World) (hi : Nat) (A : Option Addr) (n c : Nat) (l : List Int) : Prop := l.length = n ∧ n ≤ c ∧ c ≤ maxLen ∧ (0 < n → ∃ g o, A = some ⟨g, o, none⟩ ∧ g < hi ∧ ∀ j (h : j < l.length), w.cell? ⟨g, o + j, none⟩ = some (.int .i64 l[j]))
theorem RdN.kn {w w' : World} {hi n c : Nat} {A : Option Addr} {l : List Int} (h : RdN w hi A n c l) (hk : Kn w w') (hs : hi ≤ w.heap.size) : RdN w' hi A n c l := by
  obtain ⟨h1, h2, h3, h4⟩ := h
  refine ⟨h1, h2, h3, fun h0 => ?_⟩
  obtain ⟨g, o, hA, hg, hc⟩ := h4 h0
  exact ⟨g, o, hA, hg, fun j hj => (World.cell?_of_block (a := ⟨g, o + j, none⟩) (hk.block g (by omega) (fun f => f))).trans (hc j hj)⟩
def wrdF (l : List Int) (i : Nat) : Lw := lwT.getD (brg (l.getD i 0) 43) (.sg_ 59)
theorem lwT_len : lwT.length = 43 := rfl
theorem gpT_len : gpT.length = 6 := rfl
theorem getD_mem' {α : Type} {l : List α} {i : Nat} {d : α} (h : i < l.length) : l.getD i d ∈ l := by
  rw [List.getD_eq_getElem?_getD, List.getElem?_eq_getElem h]
  exact List.getElem_mem h
theorem wrdF_ok (l : List Int) (i : Nat) : (wrdF l i).Ok := lwT_ok _ (getD_mem' (by rw [lwT_len]; exact brg_lt _ _ (by omega)))
def gapF (ns : List Int) (i : Nat) : List UInt8 := if ns.length = 0 then [32] else gpT.getD (brg (ns.getD (i % ns.length) 0) 6) []
theorem gap32_ok : GpOk [32] := gpT_ok _ (by simp [gpT])
theorem gapF_ok (ns : List Int) (i : Nat) : GpOk (gapF ns i) := by
  unfold gapF
  split
  · exact gap32_ok
  · exact gpT_ok _ (getD_mem' (by rw [gpT_len]; exact brg_lt _ _ (by omega)))
/-- Words, each with what is put in ahead of it. -/
def prs (f : Nat → List UInt8) (l : List Int) : Nat → List (List UInt8 × Lw)
  | 0 => []
  | i + 1 => prs f l i ++ [(f i, wrdF l i)]
theorem prs_len (f : Nat → List UInt8) (l : List Int) : ∀ i, (prs f l i).length = i
  | 0 => rfl
  | i + 1 => by rw [prs, List.length_append, prs_len f l i]; rfl
theorem prs_snd (f g : Nat → List UInt8) (l : List Int) : ∀ i, (prs f l i).map Prod.snd = (prs g l i).map Prod.snd
  | 0 => rfl
  | i + 1 => by rw [prs, prs, List.map_append, List.map_append, prs_snd f g l i]; rfl
theorem prs_ok {f : Nat → List UInt8} (hf : ∀ i, GpOk (f i)) (l : List Int) : ∀ i, ∀ q ∈ prs f l i, GpOk q.1 ∧ q.2.Ok
  | 0, q, h => by cases h
  | i + 1, q, h => by
    rw [prs] at h
    rcases List.mem_append.1 h with h | h
    · exact prs_ok hf l i q h
    · rw [List.mem_singleton.1 h]; exact ⟨hf i, wrdF_ok l i⟩
theorem prs_few {f : Nat → List UInt8} (hf : ∀ i, GpOk (f i)) (l : List Int) (i : Nat) : (txL (prs f l i)).length ≤ 16 + 24 * i := by
  have := txL_few _ (prs_ok hf l i)
  rw [prs_len] at this
  exact this
theorem prs_txL (f : Nat → List UInt8) (l : List Int) (i : Nat) : txL (prs f l (i + 1)) = txL (prs f l i) ++ f i ++ (wrdF l i).t := by rw [prs, txL_snoc]
def wordV : Array Value := #[.string ⟨#[109, 101, 115, 115, 97, 103, 101]⟩, .string ⟨#[65]⟩, .string ⟨#[123]⟩, .string ⟨#[105, 110, 116, 51, 50]⟩, .string ⟨#[97]⟩, .string ⟨#[61]⟩, .string ⟨#[49]⟩, .string ⟨#[59]⟩, .string ⟨#[125]⟩, .string ⟨#[101, 110, 117, 109]⟩, .string ⟨#[66]⟩, .string ⟨#[48]⟩, .string ⟨#[114, 101, 112, 101, 97, 116, 101, 100]⟩, .string ⟨#[111, 112, 116, 105, 111, 110, 97, 108]⟩, .string ⟨#[109, 97, 112]⟩, .string ⟨#[60]⟩, .string ⟨#[115, 116, 114, 105, 110, 103]⟩, .string ⟨#[44]⟩, .string ⟨#[62]⟩, .string ⟨#[111, 110, 101, 111, 102]⟩, .string ⟨#[111]⟩, .string ⟨#[114, 101, 115, 101, 114, 118, 101, 100]⟩, .string ⟨#[50]⟩, .string ⟨#[116, 111]⟩, .string ⟨#[109, 97, 120]⟩, .string ⟨#[34, 120, 34]⟩, .string ⟨#[105, 109, 112, 111, 114, 116]⟩, .string ⟨#[112, 117, 98, 108, 105, 99]⟩, .string ⟨#[34, 112, 46, 112, 114, 111, 116, 111, 34]⟩, .string ⟨#[112, 97, 99, 107, 97, 103, 101]⟩, .string ⟨#[46]⟩, .string ⟨#[115, 101, 114, 118, 105, 99, 101]⟩, .string ⟨#[114, 112, 99]⟩, .string ⟨#[40]⟩, .string ⟨#[41]⟩, .string ⟨#[114, 101, 116, 117, 114, 110, 115]⟩, .string ⟨#[91]⟩, .string ⟨#[106, 115, 111, 110, 95, 110, 97, 109, 101]⟩, .string ⟨#[34, 107, 34]⟩, .string ⟨#[93]⟩, .string ⟨#[45]⟩, .string ⟨#[111, 112, 116, 105, 111, 110]⟩, .string ⟨#[34, 121, 32, 122, 34]⟩]
theorem wordV_at : ∀ (i : Nat), i < 43 → wordV[i]? = some (.string ⟨(lwT.getD i (.sg_ 59)).t.toArray⟩)
  | 0, _ => rfl
  | 1, _ => rfl
  | 2, _ => rfl
  | 3, _ => rfl
  | 4, _ => rfl
  | 5, _ => rfl
  | 6, _ => rfl
  | 7, _ => rfl
  | 8, _ => rfl
  | 9, _ => rfl
  | 10, _ => rfl
  | 11, _ => rfl
  | 12, _ => rfl
  | 13, _ => rfl
  | 14, _ => rfl
  | 15, _ => rfl
  | 16, _ => rfl
  | 17, _ => rfl
  | 18, _ => rfl
  | 19, _ => rfl
  | 20, _ => rfl
  | 21, _ => rfl
  | 22, _ => rfl
  | 23, _ => rfl
  | 24, _ => rfl
  | 25, _ => rfl
  | 26, _ => rfl
  | 27, _ => rfl
  | 28, _ => rfl
  | 29, _ => rfl
  | 30, _ => rfl
  | 31, _ => rfl
  | 32, _ => rfl
  | 33, _ => rfl
  | 34, _ => rfl
  | 35, _ => rfl
  | 36, _ => rfl
  | 37, _ => rfl
  | 38, _ => rfl
  | 39, _ => rfl
  | 40, _ => rfl
  | 41, _ => rfl
  | 42, _ => rfl
  | n + 43, h => by omega
def gapV : Array Value := #[.string ⟨#[32]⟩, .string ⟨#[10]⟩, .string ⟨#[32, 32, 9]⟩, .string ⟨#[32, 47, 47, 32, 99, 32, 59, 32, 125, 10]⟩, .string ⟨#[47, 42, 32, 123, 32, 42, 47]⟩, .string ⟨#[13, 10, 32, 47, 42, 10, 42, 47, 32]⟩]
theorem gapV_at : ∀ (i : Nat), i < 6 → gapV[i]? = some (.string ⟨(gpT.getD i []).toArray⟩)
  | 0, _ => rfl
  | 1, _ => rfl
  | 2, _ => rfl
  | 3, _ => rfl
  | 4, _ => rfl
  | 5, _ => rfl
  | n + 6, h => by omega
set_option maxRecDepth 100000 in
set_option maxHeartbeats 1000000 in
theorem lwords_any (w : World) : Calls Tryz.prog 25 #[] w fun e w' => e = .returned (.slice (some ⟨w.heap.size, 0, none⟩) 43 43) ∧ w' = w.alloc (.cells wordV 9) := by
  unfold wordV
  go_enter Tryz.func25, Tryz.ntmps25
  go_wp2_with fail
  refine bodyPost_ret (v := .slice (some ⟨w.heap.size, 0, none⟩) 43 43) (by simp [results, Tryz.results25, go_sem]) rfl ⟨rfl, rfl⟩
/-- What stands in memory while the texts are made. -/
structure SpR (w : World) (l ns : List Int) (h1 h2 : Nat) (A : Option Addr) (n c : Nat) (A' : Option Addr) (n' c' gw gg : Nat) (wr : World) : Prop where
  l : RdN wr h1 A n c l
  ns : RdN wr h2 A' n' c' ns
  words : Blk wr gw 9 wordV
  gaps : Blk wr gg 9 gapV
  kn : Kn w wr
  le : h1 ≤ wr.heap.size ∧ h2 ≤ wr.heap.size
set_option maxRecDepth 100000 in
set_option maxHeartbeats 4000000 in
theorem spread_any (l ns : List Int) (A A' : Option Addr) (n c n' c' h1 h2 : Nat) (w : World) (hl : RdN w h1 A n c l) (hns : RdN w h2 A' n' c' ns) (hh1 : h1 ≤ w.heap.size) (hh2 : h2 ≤ w.heap.size) :
    Calls Tryz.prog 21 #[.slice A n c, .slice A' n' c'] w fun e w' => ∃ s1 s2 : ByteArray, e = .returned (.tuple #[.string s1, .string s2]) ∧ s1.data.toList = txL (prs (fun _ => [32]) l (min n 60)) ∧ s2.data.toList = txL (prs (gapF ns) l (min n 60)) ∧ Kn w w' := by
  obtain ⟨hln, hlc, hlm, _⟩ := id hl
  obtain ⟨hnn, hnc, hnm, _⟩ := id hns
  have HL := Lib.hid hl
  have HN := Lib.hid hns
  have HH := Lib.hid (And.intro hh1 hh2)
  have hl2 : (n : Int) ≤ 9223372036854775807 := by unfold maxLen at hlm; omega
  have hn2 : (n' : Int) ≤ 9223372036854775807 := by unfold maxLen at hnm; omega
  clear hl hns hh1 hh2
  go_enter Tryz.func21, Tryz.ntmps21
  go_wp2_with fail
  refine (lwords_any _).mono ?_
  rintro e w1 ⟨rfl, rfl⟩
  have HST := Lib.hid (show SpR w l ns h1 h2 A n c A' n' c' w.heap.size (w.heap.size + 1) ((w.alloc (.cells wordV 9)).alloc (.cells gapV 9)) from
    ⟨HL.out.kn ((Kp.refl _ w).alloc _ |>.alloc _) HH.out.1, HN.out.kn ((Kp.refl _ w).alloc _ |>.alloc _) HH.out.2, (Blk.new w 9 _).alloc _, (by have := Blk.new (w.alloc (.cells wordV 9)) 9 gapV; simpa using this), ((Kp.refl _ w).alloc _).alloc _, (by have := HH.out; simp; omega)⟩)
  simp only [gapV] at HST
  go_wp2_with fail
  generalize World.alloc (World.alloc w _) _ = w2 at *
  generalize hgw : w.heap.size = gw at *
  go_loopg [6, 7, 10] (min n 60) (fun g v6 v7 v10 wr => ∃ (i : Nat) (s t : ByteArray), i ≤ min n 60 ∧ g = min n 60 - i ∧ v10 = .int .i64 i ∧ v6 = .string s ∧ v7 = .string t ∧ s.data.toList = txL (prs (fun _ => [32]) l i) ∧ t.data.toList = txL (prs (gapF ns) l i) ∧ SpR w l ns h1 h2 A n c A' n' c' gw (gw + 1) wr)
  case atStart => exact ⟨0, _, _, Nat.zero_le _, rfl, rfl, rfl, rfl, rfl, rfl, HST.out⟩
  case round =>
    obtain ⟨i, s, t, hi, rfl, rfl, rfl, rfl, hs, ht, hr⟩ := hrel
    have HR := Lib.hid hr
    have HS := Lib.hid hs
    have HT := Lib.hid ht
    have hss : s.size ≤ 16 + 24 * i := by
      have h1 : s.data.toList.length = s.size := by simp
      rw [hs] at h1
      have := prs_few (fun _ => gap32_ok) l i
      omega
    have hts : t.size ≤ 16 + 24 * i := by
      have h1 : t.data.toList.length = t.size := by simp
      rw [ht] at h1
      have := prs_few (gapF_ok ns) l i
      omega
    clear hr hs ht HST
    by_cases hil : i < min n 60
    · have hin : (i : Int) < (n : Int) := by omega
      have h60 : (i : Int) < 60 := by omega
      obtain ⟨g1, o1, rfl, _, hc1⟩ := HR.out.l.2.2.2 (by omega)
      have hci := hc1 i (by omega)
      have hgd : l.getD i 0 = l[i]'(by omega) := by simp [List.getD, List.getElem?_eq_getElem (show i < l.length by omega)]
      have hW : wrdF l i = lwT.getD (brg (l[i]'(by omega)) 43) (.sg_ 59) := by unfold wrdF; rw [hgd]
      have hb43 := brg_lt (l[i]'(by omega)) 43 (by omega)
      have hwv := wordV_at _ hb43
      have HBR := Lib.hid (fun W => bring_any (l[i]'(by omega)) 43 W (by omega) (by omega))
      clear hc1 hgd
      generalize l[i]'(by omega) = z at *
      generalize brg z 43 = J at *
      rw [← hW] at hwv
      obtain ⟨P, hP⟩ : ∃ P : ByteArray, P = ⟨(wrdF l i).t.toArray⟩ := ⟨_, rfl⟩
      rw [← hP] at hwv
      have hPl : P.data.toList = (wrdF l i).t := by rw [hP]
      have hPs : P.size ≤ 12 := by rw [hP]; exact (wrdF_ok l i).few
      have hcw : wr.cell? ⟨gw, J, none⟩ = some (.string P) := (HR.out.words.cell J).trans hwv
      have hcg : wr.cell? ⟨gw + 1, 0, none⟩ = some (.string ⟨#[32]⟩) := (HR.out.gaps.cell 0).trans rfl
      have hJ : (J : Int) < 43 := by omega
      obtain ⟨S1, hS1r, hS1⟩ := str_add s ⟨#[32]⟩ (by show s.size + 1 ≤ _; omega)
      have hS1s : S1.size = s.size + 1 := by
        have h1 : S1.data.toList.length = S1.size := by simp
        rw [hS1, List.length_append] at h1
        have h2 : s.data.toList.length = s.size := by simp
        have h3 : (⟨#[32]⟩ : ByteArray).data.toList.length = 1 := rfl
        omega
      obtain ⟨S2, hS2r, hS2⟩ := str_add S1 P (by omega)
      have HS2 := Lib.hid (show S2.data.toList = txL (prs (fun _ => [32]) l (i + 1)) by rw [hS2, hS1, HS.out, prs_txL, hPl])
      obtain ⟨Gp, hGp⟩ : ∃ P : ByteArray, P = ⟨(gapF ns i).toArray⟩ := ⟨_, rfl⟩
      have hGs : Gp.size ≤ 12 := by rw [hGp]; exact (gapF_ok ns i).few
      obtain ⟨T1, hT1r, hT1⟩ := str_add t Gp (by omega)
      have hT1s : T1.size = t.size + Gp.size := by
        have h1 : T1.data.toList.length = T1.size := by simp
        rw [hT1, List.length_append] at h1
        have h2 : t.data.toList.length = t.size := by simp
        have h3 : Gp.data.toList.length = Gp.size := by simp
        omega
      obtain ⟨T2, hT2r, hT2⟩ := str_add T1 P (by omega)
      have HT2 := Lib.hid (show T2.data.toList = txL (prs (gapF ns) l (i + 1)) by rw [hT2, hT1, HT.out, prs_txL, hPl, hGp])
      clear hS1 hS2 hT1 hT2 hwv hW hb43 hPl hP HS HT
      by_cases hn0 : n' = 0
      · have hG2 : Gp = ⟨#[32]⟩ := by rw [hGp]; unfold gapF; rw [if_pos (by omega)]
        subst hG2
        subst hn0
        clear hGp
        go_wp2_with fail
        refine (HBR.out _).mono ?_
        rintro e _ ⟨rfl, rfl⟩
        go_wp2_with fail
        go_roundg (min n 60 - (i + 1))
        case measure => omega
        case rel => exact ⟨i + 1, S2, T2, by omega, rfl, by go_num, rfl, rfl, HS2.out, HT2.out, HR.out⟩
      · have hnp : 0 < n' := by omega
        obtain ⟨gn, on, rfl, _, hcn⟩ := HR.out.ns.2.2.2 hnp
        have hq0 : (i : Int).tmod (n' : Int) = ((i % n' : Nat) : Int) := rfl
        have hq1 : i % n' < n' := Nat.mod_lt _ hnp
        have hPd : gapF ns i = gpT.getD (brg (ns.getD (i % n') 0) 6) [] := by unfold gapF; rw [if_neg (by omega), hnn]
        generalize i % n' = q at *
        have hcq := hcn q (by omega)
        have hgd : ns.getD q 0 = ns[q]'(by omega) := by simp [List.getD, List.getElem?_eq_getElem (show q < ns.length by omega)]
        rw [hgd] at hPd
        have hj6 := brg_lt (ns[q]'(by omega)) 6 (by omega)
        have HBR2 := Lib.hid (fun W => bring_any (ns[q]'(by omega)) 6 W (by omega) (by omega))
        clear hcn hgd
        generalize ns[q]'(by omega) = y at *
        have hpv := gapV_at (brg y 6) hj6
        rw [← hPd, ← hGp] at hpv
        generalize brg y 6 = K6 at *
        have hcp : wr.cell? ⟨gw + 1, K6, none⟩ = some (.string Gp) := (HR.out.gaps.cell K6).trans hpv
        have hn1 : (0 : Int) < (n' : Int) := by omega
        have hn2 : ((n' : Int) == 0) = false := by simp; omega
        have hq2 : (q : Int) < (n' : Int) := by omega
        have hj7 : (K6 : Int) < 6 := by omega
        have w1 : IntKind.i64.wrap (q : Int) = (q : Int) := IntWalk.i64_in _ (by unfold maxLen at hnm; omega)
        clear hpv hPd hGp
        go_wp2_with fail
        refine (HBR.out _).mono ?_
        rintro e _ ⟨rfl, rfl⟩
        go_wp2_with fail
        refine (HBR2.out _).mono ?_
        rintro e _ ⟨rfl, rfl⟩
        go_wp2_with fail
        go_roundg (min n 60 - (i + 1))
        case measure => omega
        case rel => exact ⟨i + 1, S2, T2, by omega, rfl, by go_num, rfl, rfl, HS2.out, HT2.out, HR.out⟩
    · have hii : i = min n 60 := by omega
      rw [hii] at HS HT
      have HII := Lib.hid hii
      clear hii
      by_cases hni : (i : Int) < (n : Int)
      · have h60 : ¬ (i : Int) < 60 := by omega
        go_wp2_with fail
        refine bodyPost_ret (v := .tuple #[.string s, .string t]) (by simp [results, Tryz.results21, go_sem]) rfl ⟨s, t, rfl, HS.out, HT.out, HR.out.kn⟩
      · go_wp2_with fail
        refine bodyPost_ret (v := .tuple #[.string s, .string t]) (by simp [results, Tryz.results21, go_sem]) rfl ⟨s, t, rfl, HS.out, HT.out, HR.out.kn⟩
end Go.Proofs.YthmdaejlopjjoaaGreatDoor
