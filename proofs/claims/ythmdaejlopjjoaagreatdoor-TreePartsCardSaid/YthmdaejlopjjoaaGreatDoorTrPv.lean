/-
  TreeParts: what the law's three texts are read as.
-/
import Derived.Test.YthmdaejlopjjoaaGreatDoorTrPu
import Derived.Test.YthmdaejlopjjoaaGreatDoorTrSp
import Derived.Test.YthmdaejlopjjoaaGreatDoorGoA
namespace Go.Proofs.YthmdaejlopjjoaaGreatDoor
open Go.RowKit
set_option linter.unusedVariables false
set_option linter.unusedSimpArgs false

abbrev zTr : Tr := ⟨kNone, [], [], [], []⟩
def resX : Pz Tr → Tr
  | .no _ _ => zTr
  | .ok x _ => x
def resE : Pz Tr → Nat
  | .no _ c => c
  | .ok _ _ => 0
theorem mem_zTr (w : World) (B : Nat) : MemL w B (Tr.dv Ty0 zTr) [.string ⟨#[]⟩, .slice none 0 0, .slice none 0 0, .slice none 0 0, .slice none 0 0] ([] ++ ([] ++ ([] ++ ([] ++ ([] ++ []))))) :=
  .cons _ _ [] _ _ _ (.at_ _ rfl) (.cons _ _ [] _ _ _ (.sl _ _ 0 [] _ [] [] (World.ownsRow_nil w B _ _) .nil) (.cons _ _ [] _ _ _ (.sl _ _ 0 [] _ [] [] (World.ownsRow_nil w B _ _) .nil) (.cons _ _ [] _ _ _ (.sl _ _ 0 [] _ [] [] (World.ownsRow_nil w B _ _) .nil) (.cons _ _ [] _ _ _ (.sl _ _ 0 [] _ [] [] (World.ownsRow_nil w B _ _) .nil) .nil))))
theorem parse_x (s : ByteArray) (w : World) (hE : Env w) (hs : s.size ≤ 1000000) : Calls Tryz.prog 22 #[.string s] w fun e w' => ∃ (p : Nat) (vs : Array Value) (F : List Nat), e = .returned (.tuple #[.agg vs, .int .i64 p, .int .i64 (resE (parseR s))]) ∧ MemL w' w.heap.size (Tr.dv Ty0 (resX (parseR s))) vs.toList F ∧ Below w.heap.size w w' := by
  refine (parse_any s w hE hs).mono ?_
  generalize parseR s = R
  cases R with
  | no p c =>
    rintro e w' ⟨rfl, hb⟩
    exact ⟨p, _, _, rfl, mem_zTr w' _, hb⟩
  | ok x l =>
    rintro e w' ⟨vs, F, rfl, hm, hb⟩
    exact ⟨0, vs, F, rfl, hm, hb⟩
theorem dnK_x (l : List Wd) : dnK (erL l) = dnK l := by unfold dnK; rw [hdk_er]
theorem parse_nz (s : ByteArray) : Nz (parseR s) := by
  unfold parseR
  split
  · exact nz_no _ (by assumption)
  · exact fileP_nz _ _
theorem res_ok {s : ByteArray} (h : resE (parseR s) = 0) : ∃ m, parseR s = .ok (resX (parseR s)) m := by
  have hz := parse_nz s
  cases hr : parseR s with
  | no p c =>
    rw [hr] at h hz
    have hc : c = 0 := h
    exact absurd (by rw [hc]) (hz p)
  | ok x l => exact ⟨l, rfl⟩
theorem parse_wds {s : ByteArray} {l : List (List UInt8 × Lw)} (hl : ∀ q ∈ l, GpOk q.1 ∧ q.2.Ok) (hs : s.size ≤ 65536) (hd : s.data.toList = txL l) : (parseR s).er Tr.bare = fileP dnK (wdsOf (l.map Prod.snd)) := by
  obtain ⟨h1, h2⟩ := words_tx hl hs hd
  unfold parseR
  rw [if_neg (by rw [h1]; decide), ← fileP_er dnK_x, h2]
def wdL (l : List Lw) : List Wd := l.map fun q => (⟨q.k, 0, ⟨q.x.toArray⟩, q.n⟩ : Wd)
theorem wdL_len (l : List Lw) : (wdL l).length = l.length := List.length_map ..
theorem wdL_app (a b : List Lw) : wdL (a ++ b) = wdL a ++ wdL b := List.map_append ..
theorem file_head (l : List Lw) : fileP dnK (wdsOf l) = fisF dnK ((wdL l ++ lE).length + 1) zTr (wdL l ++ lE) := by
  unfold wdsOf
  rw [List.append_assoc]
  show fileP dnK ((hdI.map fun i : It => (⟨i.k, 0, i.x, i.n⟩ : Wd)) ++ (wdL l ++ lE)) = _
  generalize wdL l ++ lE = r
  kernel_rfl
theorem parts_tx {l1 l2 : List Lw} (k1 : ∀ q ∈ l1, q.k ≠ 0) (n1 : l1.length ≤ 60) (n2 : l2.length ≤ 60) {a b : Tr} {m1 m2 : List Wd} (h1 : fileP dnK (wdsOf l1) = .ok a m1) (h2 : fileP dnK (wdsOf l2) = .ok b m2) (pa : a.pkg = kNone) (hi : a.imps.length + b.imps.length ≤ 16) :
    ∃ m, fileP dnK (wdsOf (l1 ++ l2)) = .ok (appT a b) m := by
  rw [file_head] at h1 h2 ⊢
  have hk : ∀ w ∈ wdL l1, w.k ≠ 0 := by
    intro w hw
    obtain ⟨q, hq, rfl⟩ := List.mem_map.1 hw
    exact k1 q hq
  obtain ⟨_, a2, a3, a4⟩ := fisF_cnt _ h1
  obtain ⟨_, b2, b3, b4⟩ := fisF_cnt _ h2
  obtain ⟨_, hsp⟩ := fisF_split (dn := dnK) (fun _ => rfl) _ hk h1
  have g1 := wdL_len l1
  have g2 := wdL_len l2
  obtain ⟨n'', q1, q2⟩ := hsp (wdL l2 ++ lE) (by simp) ((wdL (l1 ++ l2) ++ lE).length + 1) (by rw [wdL_app]; simp) (by rw [wdL_app]; simp)
  have e : wdL (l1 ++ l2) ++ lE = wdL l1 ++ (wdL l2 ++ lE) := by rw [wdL_app, List.append_assoc]
  refine ⟨m2, ?_⟩
  rw [show fisF dnK ((wdL (l1 ++ l2) ++ lE).length + 1) zTr (wdL (l1 ++ l2) ++ lE) = fisF dnK ((wdL (l1 ++ l2) ++ lE).length + 1) zTr (wdL l1 ++ (wdL l2 ++ lE)) by rw [← e], q2]
  have ha : appT a zTr = a := by
    cases a
    simp only at pa
    subst pa
    simp [appT]
  have := fisF_app (p := a) _ n'' q1 h2 ⟨hi, by simp at a2 b2; omega, by simp at a3 b3; omega, by simp at a4 b4; omega⟩
  rw [ha] at this
  exact this
theorem txL_two (a b : List (List UInt8 × Lw)) : txL a ++ (txL b).drop 16 = txL (a ++ b) := by
  unfold txL
  rw [List.drop_append_of_le_length (show 16 ≤ hdT.length from by decide), show hdT.drop 16 = [] from rfl, List.nil_append, List.flatMap_append, List.append_assoc]
theorem wrd_k (l : List Int) (i : Nat) : (wrdF l i).k ≠ 0 := by
  have h : ∀ q ∈ lwT, q.k ≠ 0 := by decide
  exact h _ (getD_mem' (by rw [lwT_len]; exact brg_lt _ _ (by omega)))
theorem prs_k (f : Nat → List UInt8) (l : List Int) : ∀ i, ∀ q ∈ (prs f l i).map Prod.snd, q.k ≠ 0
  | 0, q, h => by cases h
  | i + 1, q, h => by
    rw [prs, List.map_append] at h
    rcases List.mem_append.1 h with h | h
    · exact prs_k f l i q h
    · rw [List.mem_singleton.1 h]; exact wrd_k l i
/-- The want of the law. -/
def wantT (a b : Tr) : Tr := ⟨kNone, a.imps ++ b.imps, a.msgs ++ b.msgs, a.enums ++ b.enums, a.svcs ++ b.svcs⟩
theorem parts_same {s1 s2 s3 : ByteArray} {l k : List Int} {m1 m2 : Nat} (hm1 : m1 ≤ 60) (hm2 : m2 ≤ 60) (h1 : s1.data.toList = txL (prs (fun _ => [32]) l m1)) (h2 : s2.data.toList = txL (prs (fun _ => [32]) k m2)) (h3 : s3.data.toList = s1.data.toList ++ s2.data.toList.drop 16)
    (e1 : resE (parseR s1) = 0) (e2 : resE (parseR s2) = 0) (p1 : (resX (parseR s1)).pkg = kNone) (p2 : (resX (parseR s2)).pkg = kNone) (hi : (resX (parseR s1)).imps.length + (resX (parseR s2)).imps.length ≤ 16) :
    resE (parseR s3) = 0 ∧ (resX (parseR s3)).bare = (wantT (resX (parseR s1)) (resX (parseR s2))).bare := by
  have z1 : s1.size ≤ 1456 := by
    have := congrArg List.length h1
    have := prs_few (fun _ => gap32_ok) l m1
    simp at *; omega
  have z2 : s2.size ≤ 1456 := by
    have := congrArg List.length h2
    have := prs_few (fun _ => gap32_ok) k m2
    simp at *; omega
  have z3 : s3.size ≤ 2912 := by
    have := congrArg List.length h3
    simp at *; omega
  have o1 := prs_ok (fun _ => gap32_ok) l m1
  have o2 := prs_ok (fun _ => gap32_ok) k m2
  have r1 := parse_wds o1 (by omega) h1
  have r2 := parse_wds o2 (by omega) h2
  have h3' : s3.data.toList = txL (prs (fun _ => [32]) l m1 ++ prs (fun _ => [32]) k m2) := by rw [h3, h1, h2, txL_two]
  have r3 := parse_wds (fun q hq => (List.mem_append.1 hq).elim (o1 q) (o2 q)) (by omega) h3'
  obtain ⟨m1', q1⟩ := res_ok e1
  obtain ⟨m2', q2⟩ := res_ok e2
  generalize resX (parseR s1) = a at *
  generalize resX (parseR s2) = b at *
  rw [q1] at r1
  rw [q2] at r2
  rw [List.map_append] at r3
  obtain ⟨m, hm⟩ := parts_tx (prs_k _ l m1) (by rw [List.length_map, prs_len]; exact hm1) (by rw [List.length_map, prs_len]; exact hm2) r1.symm r2.symm p1 (by simpa [Tr.bare] using hi)
  rw [hm] at r3
  cases hr : parseR s3 with
  | no p c => rw [hr] at r3; cases r3
  | ok x l =>
    rw [hr] at r3
    injection r3 with r3 _
    refine ⟨rfl, ?_⟩
    show x.bare = _
    rw [r3]
    unfold appT wantT Tr.bare
    simp only [List.map_append, p2]
end Go.Proofs.YthmdaejlopjjoaaGreatDoor
