/-
  tree: a message of a message.
-/
import Derived.Test.YthmdaejlopjjoaaGreatDoorMsB
import Derived.Test.YthmdaejlopjjoaaGreatDoorFlow
import Derived.Test.YthmdaejlopjjoaaGreatDoorTmA
namespace Go.Proofs.YthmdaejlopjjoaaGreatDoor
open Go.RowKit
set_option linter.unusedVariables false
set_option linter.unusedSimpArgs false

theorem Tryz.info49 : (Tryz.prog.info? 49).map (fun i => (i.zero, i.size, i.bytes)) = some (some (.agg #[.string ⟨#[]⟩, .int .i64 0, .slice none 0 0, .slice none 0 0, .slice none 0 0, .slice none 0 0, .slice none 0 0, .slice none 0 0]), 8, 168) := by kernel_rfl
theorem Tryz.underlying23 : Tryz.prog.underlying 23 = some (.slice 49) := by kernel_rfl
abbrev zMs : Ms := ⟨⟨#[]⟩, 0, [], [], [], [], [], []⟩
def zMsC : Array Value := #[.string ⟨#[]⟩, .int .i64 0, .slice none 0 0, .slice none 0 0, .slice none 0 0, .slice none 0 0, .slice none 0 0, .slice none 0 0]
theorem zero_sl (w : World) (B t k : Nat) : Mem w B (.sl t k 0 []) (.slice none 0 0) [] := .sl t k 0 [] _ [] [] (World.ownsRow_nil w B t k) .nil
theorem zMs_mem (w : World) (B : Nat) : MemL w B (zMs.dv Ty0) zMsC.toList [] :=
  .cons _ _ [] _ _ [] (.at_ _ rfl) (.cons _ _ [] _ _ [] (.at_ _ rfl) (.cons _ _ [] _ _ [] (zero_sl w B _ _) (.cons _ _ [] _ _ [] (zero_sl w B _ _) (.cons _ _ [] _ _ [] (zero_sl w B _ _) (.cons _ _ [] _ _ [] (zero_sl w B _ _) (.cons _ _ [] _ _ [] (zero_sl w B _ _) (.cons _ _ [] _ _ [] (zero_sl w B _ _) .nil)))))))
theorem Ms_len (T : Ty) (y : Ms) : (y.dv T).length = 8 := by cases y; simp [Ms.dv]
/-- What is known of the operations' values, of the append of a message. -/
def mmV (b be B deep n0 : Nat) (A1 : Option Addr) (c1 : Nat) : Nat → Value → Prop
  | 0, v => v = .pointer (some ⟨be, 0, none⟩)
  | 1, v => v = .pointer (some ⟨be, 0, none⟩)
  | 2, v => v = .pointer (some ⟨be, 1, none⟩)
  | 3, v => v = .pointer (some ⟨be, 5, none⟩)
  | 4, v => v = .slice A1 n0 c1
  | 5, v => v = .pointer (some ⟨be, 0, none⟩)
  | 6, v => v = .pointer (some ⟨be, 0, none⟩)
  | 7, v => v = .pointer (some ⟨be, 0, none⟩)
  | 8, v => v = .pointer (some ⟨b, 0, none⟩)
  | 9, v => v = .pointer (some ⟨be, 0, none⟩)
  | 10, v => v = .pointer (some ⟨be, 0, none⟩)
  | 11, v => v = .pointer (some ⟨be, 9, none⟩)
  | 12, v => v = .int .i64 deep
  | 13, v => v = .int .i64 ((deep : Int) + 1)
  | 14, v => ∃ vs : Array Value, v = .agg vs ∧ vs.size = 8 ∧ vs.all (·.oneCell') = true
  | 15, v => v = .int .i64 n0
  | 16, v => ∃ q, v = .slice (some ⟨q, 0, none⟩) 1 1
  | 17, v => ∃ g2 c2, v = .slice (some ⟨g2, 0, none⟩) (n0 + 1) c2 ∧ B ≤ g2
  | 20, v => v = .pointer (some ⟨be, 0, none⟩)
  | 21, v => v = .pointer (some ⟨be, 1, none⟩)
  | 22, v => v = .pointer (some ⟨be, 5, none⟩)
  | _, _ => True
/-- What is known of memory. -/
def mmP (b g : Nat) (cur : Array Value) (be B deep S0 n0 : Nat) (w0 : World) (A1 : Option Addr) (c1 : Nat) (x : Ms) (V : MV) (C : List Nat) (l : List Wd) (sub : Pz Ms) (rs : List Rw) : Nat → (Nat → Value) → World → Prop
  | 14, d, W => ∃ y l' vs F, sub = .ok y l' ∧ d 14 = .agg vs ∧ MemL W S0 (Ms.dv Ty0 y) vs.toList F ∧ Ps W b g cur l' ∧ Kd b be B w0 W
  | 16, d, W => ∃ q, d 16 = .slice (some ⟨q, 0, none⟩) 1 1 ∧ Blk W q 49 zMsC ∧ S0 ≤ q
  | 17, d, W => ∃ y l' vs F dz, sub = .ok y l' ∧ d 14 = .agg vs ∧ MemL W S0 (Ms.dv Ty0 y) vs.toList F ∧ Ps W b g cur l' ∧ Kd b be B w0 W ∧
      Rows_ W B (rs.set 2 ⟨49, 8, n0 + 1, x.msgs.flatMap (Ms.dv Ty0) ++ dz, d 17⟩) C ∧ dz.length = 8 ∧ (∀ i ∈ F, i ∉ owns (rs.set 2 ⟨49, 8, n0 + 1, x.msgs.flatMap (Ms.dv Ty0) ++ dz, d 17⟩)) ∧ S0 ≤ W.heap.size
  | 18, d, W => ∃ g2 c2, d 17 = .slice (some ⟨g2, 0, none⟩) (n0 + 1) c2 ∧ d 18 = .pointer (some ⟨g2, n0 * 8, none⟩)
  | 19, d, W => ∃ y l' F, sub = .ok y l' ∧ Rows_ W B (rs.set 2 ⟨49, 8, n0 + 1, x.msgs.flatMap (Ms.dv Ty0) ++ Ms.dv Ty0 y, d 17⟩) (C ++ F) ∧ Ps W b g cur l' ∧ Kd b be B w0 W ∧ S0 ≤ W.heap.size
  | 23, d, W => Blk W be 236 #[.pointer (some ⟨b, 0, none⟩), .string x.name, .int .i64 x.at_, V.f, V.o, d 17, V.e, V.r, V.n, .int .i64 deep]
  | 24, d, W => Blk W be 236 #[.pointer (some ⟨b, 0, none⟩), .string x.name, .int .i64 x.at_, V.f, V.o, .slice A1 n0 c1, V.e, V.r, V.n, .int .i64 deep]
  | 25, d, W => Ps W b g cur l ∧ Kd b be B w0 W
  | 26, d, W => Rows_ W B rs C ∧ S0 ≤ W.heap.size
  | _, _, _ => True
def mmF (b be B : Nat) (i : Nat) (W W' : World) : Prop :=
  if i = 14 then Kb b W W'
  else if i = 16 then ∃ o, W' = W.alloc o
  else if i = 17 then ∃ row, W.grownBy W' row ∧ ∀ k, row = some k → B ≤ k
  else if i = 19 then ∃ g2, W.grownBy W' (some g2) ∧ B ≤ g2
  else if i = 23 then ∃ u, W' = W.setCell ⟨be, 5, none⟩ u
  else W' = W

section
variable {b g be B deep S0 n0 : Nat} {cur : Array Value} {w0 W W' : World} {A1 : Option Addr} {c1 : Nat} {x : Ms} {V : MV} {C : List Nat} {l : List Wd} {sub : Pz Ms} {rs : List Rw} {d : Nat → Value}
theorem mmP_cong {i : Nat} {d' : Nat → Value} (hi : i < 27) (h14 : i = 14 ∨ i = 17 → d 14 = d' 14) (h16 : i = 16 → d 16 = d' 16) (h17 : i = 17 ∨ i = 18 ∨ i = 19 ∨ i = 23 → d 17 = d' 17) (h18 : i = 18 → d 18 = d' 18)
    (h : mmP b g cur be B deep S0 n0 w0 A1 c1 x V C l sub rs i d W) : mmP b g cur be B deep S0 n0 w0 A1 c1 x V C l sub rs i d' W := by
  obtain rfl | rfl | rfl | rfl | rfl | rfl | rfl | rfl | rfl | rfl | rfl | rfl | rfl | rfl | rfl | rfl | rfl | rfl | rfl | rfl | rfl | rfl | rfl | rfl | rfl | rfl | rfl : i = 0 ∨ i = 1 ∨ i = 2 ∨ i = 3 ∨ i = 4 ∨ i = 5 ∨ i = 6 ∨ i = 7 ∨ i = 8 ∨ i = 9 ∨ i = 10 ∨ i = 11 ∨ i = 12 ∨ i = 13 ∨ i = 14 ∨ i = 15 ∨ i = 16 ∨ i = 17 ∨ i = 18 ∨ i = 19 ∨ i = 20 ∨ i = 21 ∨ i = 22 ∨ i = 23 ∨ i = 24 ∨ i = 25 ∨ i = 26 := by omega
  all_goals first
    | trivial
    | exact h
    | (simp only [mmP] at h ⊢; rw [← h14 (by decide)]; exact h)
    | (simp only [mmP] at h ⊢; rw [← h16 (by decide)]; exact h)
    | (simp only [mmP] at h ⊢; rw [← h17 (by decide)]; exact h)
    | (simp only [mmP] at h ⊢; rw [← h17 (by decide), ← h18 (by decide)]; exact h)
    | (simp only [mmP] at h ⊢; rw [← h14 (by decide), ← h17 (by decide)]; exact h)
/-- The frames of the five operations that turn memory. -/
theorem mmP_st (hbB : b < B) (hgB : g < B) (hbe : b < be) (hge : g < be) (hbeB : be < B) (hS : B ≤ S0) {i j : Nat} (hj : j < 27) (hij : i ≠ j)
    (hr : (i = 14 ∨ i = 16 → j ≠ 17 ∧ j ≠ 18 ∧ j ≠ 19 ∧ j ≠ 23) ∧ (i = 17 → j ≠ 18 ∧ j ≠ 19 ∧ j ≠ 23))
    (hsp : (i = 14 → j ≠ 25) ∧ (i = 17 ∨ i = 19 ∨ i = 23 → j ≠ 14 ∧ j ≠ 16 ∧ j ≠ 25 ∧ j ≠ 26) ∧ (i = 19 → j ≠ 17) ∧ (i = 23 → j ≠ 24))
    (h : mmP b g cur be B deep S0 n0 w0 A1 c1 x V C l sub rs j d W) (hF : mmF b be B i W W') : mmP b g cur be B deep S0 n0 w0 A1 c1 x V C l sub rs j d W' := by
  have hlow : ∀ {T : Nat → Prop}, (∀ k, T k → B ≤ k) → Kp T W W' → j = 18 ∨ j = 23 ∨ j = 24 → mmP b g cur be B deep S0 n0 w0 A1 c1 x V C l sub rs j d W' := by
    intro T hT hk hj'
    rcases hj' with rfl | rfl | rfl
    · exact h
    · exact Blk.kp h hk (fun e => by have := hT be e; omega)
    · exact Blk.kp h hk (fun e => by have := hT be e; omega)
  by_cases h0 : j ≠ 14 ∧ j ≠ 16 ∧ j ≠ 17 ∧ j ≠ 18 ∧ j ≠ 19 ∧ j ≠ 23 ∧ j ≠ 24 ∧ j ≠ 25 ∧ j ≠ 26
  · obtain rfl | rfl | rfl | rfl | rfl | rfl | rfl | rfl | rfl | rfl | rfl | rfl | rfl | rfl | rfl | rfl | rfl | rfl : j = 0 ∨ j = 1 ∨ j = 2 ∨ j = 3 ∨ j = 4 ∨ j = 5 ∨ j = 6 ∨ j = 7 ∨ j = 8 ∨ j = 9 ∨ j = 10 ∨ j = 11 ∨ j = 12 ∨ j = 13 ∨ j = 15 ∨ j = 20 ∨ j = 21 ∨ j = 22 := by omega
    all_goals trivial
  unfold mmF at hF
  by_cases i14 : i = 14
  · rw [if_pos i14] at hF
    obtain rfl | rfl | rfl : j = 16 ∨ j = 24 ∨ j = 26 := by have := hr.1 (.inl i14); have := hsp.1 i14; omega
    · obtain ⟨q, h1, h2, h3⟩ := h
      exact ⟨q, h1, h2.kp hF (by omega), h3⟩
    · exact Blk.kp h hF (by omega)
    · exact ⟨h.1.kp hF (fun q e => by omega), Nat.le_trans h.2 hF.size⟩
  rw [if_neg i14] at hF
  by_cases i16 : i = 16
  · rw [if_pos i16] at hF
    obtain ⟨o, rfl⟩ := hF
    obtain rfl | rfl | rfl | rfl : j = 14 ∨ j = 24 ∨ j = 25 ∨ j = 26 := by have := hr.1 (.inr i16); omega
    · obtain ⟨y, l', vs, F, h1, h2, h3, h4, h5⟩ := h
      exact ⟨y, l', vs, F, h1, h2, h3.stays fun q hq => Below.heap_alloc _ _ q (h3.lt q hq).2, h4.alloc _, h5.alloc _⟩
    · exact Blk.alloc h _
    · exact ⟨h.1.alloc _, h.2.alloc _⟩
    · exact ⟨h.1.alloc _, Nat.le_trans h.2 (by simp)⟩
  rw [if_neg i16] at hF
  by_cases i17 : i = 17
  · rw [if_pos i17] at hF
    obtain ⟨row, hg, hB⟩ := hF
    exact hlow (T := fun k => some k = row) (fun k e => hB k e.symm) (Kp.of_grown hg) (by have := hr.2 i17; have := hsp.2.1 (.inl i17); omega)
  rw [if_neg i17] at hF
  by_cases i19 : i = 19
  · rw [if_pos i19] at hF
    obtain ⟨g2, hg, hB⟩ := hF
    exact hlow (T := fun k => some k = some g2) (fun k e => by injection e with e; omega) (Kp.of_grown hg) (by have := hsp.2.1 (.inr (.inl i19)); have := hsp.2.2.1 i19; omega)
  rw [if_neg i19] at hF
  by_cases i23 : i = 23
  · rw [if_pos i23] at hF
    obtain ⟨u, rfl⟩ := hF
    obtain rfl | rfl | rfl : j = 17 ∨ j = 18 ∨ j = 19 := by have := hsp.2.1 (.inr (.inr i23)); have := hsp.2.2.2 i23; omega
    · obtain ⟨y, l', vs, F, dz, h1, h2, h3, h4, h5, h6, h7, h8, h9⟩ := h
      exact ⟨y, l', vs, F, dz, h1, h2, h3.stays fun q hq => Below.heap_setCell _ _ _ q (by have := (h3.lt q hq).1; show q ≠ be; omega), h4.far (by show be ≠ b; omega) (by show be ≠ g; omega) _, h5.setCell (fun _ => .inr (.inl rfl)) _, h6.setCell hbeB _, h7, h8, by simpa using h9⟩
    · exact h
    · obtain ⟨y, l', F, h1, h2, h3, h4, h5⟩ := h
      exact ⟨y, l', F, h1, h2.setCell hbeB _, h3.far (by show be ≠ b; omega) (by show be ≠ g; omega) _, h4.setCell (fun _ => .inr (.inl rfl)) _, by simpa using h5⟩
  rw [if_neg i23] at hF
  subst hF
  exact h
end
section
variable {w : World} {b g : Nat} {cur : Array Value} {l : List Wd}
set_option maxRecDepth 100000 in
set_option maxHeartbeats 4000000 in
theorem mMessage_any {dn : List Wd → Bool} {be B deep n : Nat} {x : Ms} {V : MV} {C : List Nat} (h : Mg w b g cur be B deep x V C l) (hk0 : (hdW l).k ≠ 0) (hd : deep ≤ 8)
    (hS : ∀ W, Ps W b g cur l → Calls Tryz.prog 178 #[.pointer (some ⟨b, 0, none⟩), .int .i64 (deep + 1)] W (PzQ (msP dn n (deep + 1) l) (Kb b W) (MdK (Ms.dv Ty0) W b g cur))) :
    Calls Tryz.prog 223 #[.pointer (some ⟨be, 0, none⟩)] w (PzQ (roomP x.msgs.length 128 l ((msP dn n (deep + 1) l).and fun y l => .ok { x with msgs := x.msgs ++ [y] } l)) (Kd b be B w) (MgK w b g cur be B deep)) := by
  obtain ⟨i0, hi0, hz0, hz1, hz2⟩ := info_parts Tryz.info49
  rcases V with ⟨vf, vo, vm, ve, vr, vn⟩
  obtain ⟨R, hR⟩ : ∃ R, R = roomP x.msgs.length 128 l ((msP dn n (deep + 1) l).and fun y l => Pz.ok { x with msgs := x.msgs ++ [y] } l) := ⟨_, rfl⟩
  rw [← hR]
  unfold roomP at hR
  have HR := Lib.hid hR
  have HM := Lib.hid (room_any h.drew.ps x.msgs.length 128)
  obtain ⟨A1, c1, hv1, -, -⟩ := h.rows.val (j := 2) rfl
  simp only at hv1
  subst hv1
  have H := Lib.hid h
  obtain ⟨d0, hlt⟩ := h.ptr
  have d4 : w.cell? ⟨be, 5, none⟩ = some (.slice A1 x.msgs.length c1) := h.blk.cell 5
  clear h hR
  go_enter Tryz.func223, Tryz.ntmps223
  go_wp2_with fail
  go_still_tail 10, (by kernel_rfl)
  change wpList _ _ _ _ _ w.drew
  go_wp2_with fail
  refine HM.out.mono ?_
  rintro e w1 ⟨h1, hk1⟩
  have HK1 := Lib.hid (show Kn w w1 from (Kp.refl _ w).drew.trans hk1)
  have HE1 := Lib.hid (H.out.drew.kn hk1)
  clear hk1 d0 d4
  rcases h1 with ⟨hge, rfl⟩ | ⟨hlt4, rfl⟩
  · have HR2 := Lib.hid (show R = .no (hdW l).p 5 by rw [HR.out, if_pos hge])
    clear HM hge HR
    unfold Stp stopV
    go_wp2_with fail
    rw [HR2.out]
    exact ⟨rfl, rfl, Kn.kd HK1.out⟩
  · have hR2 := HR.out
    rw [if_neg hlt4] at hR2
    have HR2 := Lib.hid hR2
    have hal : x.msgs.length ≤ 1000000 := by omega
    obtain ⟨d0, elt⟩ := HE1.out.ptr
    have d4 : w1.cell? ⟨be, 5, none⟩ = some (.slice A1 x.msgs.length c1) := HE1.out.blk.cell 5
    have y4 : w1.frozen? ⟨be, 5, none⟩ = false := HE1.out.blk.frozen 5
    have d9 : w1.cell? ⟨be, 9, none⟩ = some (.int .i64 deep) := HE1.out.blk.cell 9
    clear HR hR2 hlt4 HM
    go_wp2_with fail
    have hBS : B ≤ w1.heap.size := HE1.out.sz
    have hlb := HE1.out.lb
    have hlg := HE1.out.lg
    have hlB := HE1.out.lB
    have HS := Lib.hid hS
    clear hS d0 d4 y4 d9 hlt elt H hk0
    refine wp_region_flow (by kernel_rfl) 35 3 1 (fun i => match i with | 4 => [24] | 8 => [24] | 12 => [24] | 14 => [25, 26] | 16 => [26] | 17 => [14, 16, 26] | 18 => [] | 19 => [17, 18] | 23 => [24] | _ => []) (fun _ => []) (fun i => match i with | 14 => [25] | 17 => [14, 16, 25, 26] | 19 => [14, 16, 17, 25, 26] | 23 => [14, 16, 24, 25, 26] | _ => []) (fun i => ([13, 14, 15, 16, 17, 18, 19, 20, 21, 22, 23, 24, 25, 26, 27, 28, 29, 30, 31, 35, 32, 33, 34, 36, 37, 38, 39] : List Nat).getD i 0) (by kernel_rfl) rfl [13, 14, 15, 16, 17, 18, 19, 20, 21, 22, 23, 24, 25, 26, 27, 28, 29, 30, 31, 35, 32, 33, 34, 36, 37, 38, 39] (by kernel_rfl)
      (mmF b be B) (mmV b be B deep x.msgs.length A1 c1) (mmP b g cur be B deep w1.heap.size x.msgs.length w A1 c1 x ⟨vf, vo, .slice A1 x.msgs.length c1, ve, vr, vn⟩ C l (msP dn n (deep + 1) l) (mrows x ⟨vf, vo, .slice A1 x.msgs.length c1, ve, vr, vn⟩)) ?cong ?st ?t0 ?op ?skip ?done
    case cong =>
      intro i d d' W hi hj h
      refine mmP_cong hi (fun e => ?_) (fun e => ?_) (fun e => ?_) (fun e => ?_) h
      · rcases e with rfl | rfl
        · exact hj 14 (.inl rfl)
        · exact hj 14 (.inr (by kernel_rfl))
      · subst e; exact hj 16 (.inl rfl)
      · rcases e with rfl | rfl | rfl | rfl
        · exact hj 17 (.inl rfl)
        · exact hj 17 (.inr (by kernel_rfl))
        · exact hj 17 (.inr (by kernel_rfl))
        · exact hj 17 (.inr (by kernel_rfl))
      · subst e; exact hj 18 (.inl rfl)
    case st =>
      intro i j d W W' hi hj hij hsp hr h hF
      refine mmP_st (by omega) (by omega) hlb hlg hlB hBS hj hij ?_ ?_ h hF
      · refine ⟨fun e => ⟨?_, ?_, ?_, ?_⟩, fun e => ⟨?_, ?_, ?_⟩⟩
        all_goals
          rintro rfl
          first
          | (subst e; exact absurd (show reach _ 1 _ _ = true by kernel_rfl) (by rw [hr]; decide))
          | (rcases e with rfl | rfl
             · exact absurd (show reach _ 1 _ _ = true by kernel_rfl) (by rw [hr]; decide)
             · exact absurd (show reach _ 1 _ _ = true by kernel_rfl) (by rw [hr]; decide))
      · refine ⟨fun e => ?_, fun e => ⟨?_, ?_, ?_, ?_⟩, fun e => ?_, fun e => ?_⟩
        all_goals
          rintro rfl
          first
          | (subst e; simp at hsp)
          | (rcases e with rfl | rfl | rfl <;> simp at hsp)
    case t0 =>
      intro j d hj
      obtain rfl | rfl | rfl : j = 0 ∨ j = 1 ∨ j = 2 := by omega
      · exact HE1.out.drew.blk
      · exact ⟨HE1.out.drew.ps, Kn.kd HK1.out.drew⟩
      · exact ⟨HE1.out.drew.rows, Nat.le_refl _⟩
    case op =>
      intro i o ho u W hdep hV _ _ K hK
      simp only [over, List.foldl_cons, List.foldl_nil, List.setIfInBounds_toArray, List.set_cons_zero, List.set_cons_succ, List.set_nil, List.getD_cons_zero, List.getD_cons_succ, Array.getD_eq_getD_getElem?, List.getElem?_toArray] at hK hdep hV ⊢
      match i, ho with
      | 0, ho =>
        simp only [List.getElem?_toArray, List.getElem?_cons_zero, List.getElem?_cons_succ, Option.some.injEq] at ho
        subst ho
        go_wp2
        exact hK _ _ rfl trivial rfl
      | 1, ho =>
        simp only [List.getElem?_toArray, List.getElem?_cons_zero, List.getElem?_cons_succ, Option.some.injEq] at ho
        subst ho
        have v0 := hV 0 (by kernel_rfl)
        simp only [List.getD_cons_zero, List.getD_cons_succ, mmV] at v0
        simp only [v0] at hK ⊢
        go_wp2
        exact hK _ _ rfl trivial rfl
      | 2, ho =>
        simp only [List.getElem?_toArray, List.getElem?_cons_zero, List.getElem?_cons_succ, Option.some.injEq] at ho
        subst ho
        have v1 := hV 1 (by kernel_rfl)
        simp only [List.getD_cons_zero, List.getD_cons_succ, mmV] at v1
        simp only [v1] at hK ⊢
        go_wp2
        exact hK _ _ rfl trivial rfl
      | 3, ho =>
        simp only [List.getElem?_toArray, List.getElem?_cons_zero, List.getElem?_cons_succ, Option.some.injEq] at ho
        subst ho
        have v2 := hV 2 (by kernel_rfl)
        simp only [List.getD_cons_zero, List.getD_cons_succ, mmV] at v2
        simp only [v2] at hK ⊢
        go_wp2
        exact hK _ _ rfl trivial rfl
      | 4, ho =>
        simp only [List.getElem?_toArray, List.getElem?_cons_zero, List.getElem?_cons_succ, Option.some.injEq] at ho
        subst ho
        have v3 := hV 3 (by kernel_rfl)
        simp only [List.getD_cons_zero, List.getD_cons_succ, mmV] at v3
        have hb := hdep 24 (by simp)
        have hc := Blk.cell hb 5
        simp only [List.getElem?_toArray, List.getElem?_cons_zero, List.getElem?_cons_succ] at hc
        simp only [v3] at hK ⊢
        go_wp2
        exact hK _ _ rfl trivial rfl
      | 5, ho =>
        simp only [List.getElem?_toArray, List.getElem?_cons_zero, List.getElem?_cons_succ, Option.some.injEq] at ho
        subst ho
        go_wp2
        exact hK _ _ rfl trivial rfl
      | 6, ho =>
        simp only [List.getElem?_toArray, List.getElem?_cons_zero, List.getElem?_cons_succ, Option.some.injEq] at ho
        subst ho
        have v5 := hV 5 (by kernel_rfl)
        simp only [List.getD_cons_zero, List.getD_cons_succ, mmV] at v5
        simp only [v5] at hK ⊢
        go_wp2
        exact hK _ _ rfl trivial rfl
      | 7, ho =>
        simp only [List.getElem?_toArray, List.getElem?_cons_zero, List.getElem?_cons_succ, Option.some.injEq] at ho
        subst ho
        have v6 := hV 6 (by kernel_rfl)
        simp only [List.getD_cons_zero, List.getD_cons_succ, mmV] at v6
        simp only [v6] at hK ⊢
        go_wp2
        exact hK _ _ rfl trivial rfl
      | 8, ho =>
        simp only [List.getElem?_toArray, List.getElem?_cons_zero, List.getElem?_cons_succ, Option.some.injEq] at ho
        subst ho
        have v7 := hV 7 (by kernel_rfl)
        simp only [List.getD_cons_zero, List.getD_cons_succ, mmV] at v7
        have hb := hdep 24 (by simp)
        have hc := Blk.cell hb 0
        simp only [List.getElem?_toArray, List.getElem?_cons_zero, List.getElem?_cons_succ] at hc
        simp only [v7] at hK ⊢
        go_wp2
        exact hK _ _ rfl trivial rfl
      | 9, ho =>
        simp only [List.getElem?_toArray, List.getElem?_cons_zero, List.getElem?_cons_succ, Option.some.injEq] at ho
        subst ho
        go_wp2
        exact hK _ _ rfl trivial rfl
      | 10, ho =>
        simp only [List.getElem?_toArray, List.getElem?_cons_zero, List.getElem?_cons_succ, Option.some.injEq] at ho
        subst ho
        have v9 := hV 9 (by kernel_rfl)
        simp only [List.getD_cons_zero, List.getD_cons_succ, mmV] at v9
        simp only [v9] at hK ⊢
        go_wp2
        exact hK _ _ rfl trivial rfl
      | 11, ho =>
        simp only [List.getElem?_toArray, List.getElem?_cons_zero, List.getElem?_cons_succ, Option.some.injEq] at ho
        subst ho
        have v10 := hV 10 (by kernel_rfl)
        simp only [List.getD_cons_zero, List.getD_cons_succ, mmV] at v10
        simp only [v10] at hK ⊢
        go_wp2
        exact hK _ _ rfl trivial rfl
      | 12, ho =>
        simp only [List.getElem?_toArray, List.getElem?_cons_zero, List.getElem?_cons_succ, Option.some.injEq] at ho
        subst ho
        have v11 := hV 11 (by kernel_rfl)
        simp only [List.getD_cons_zero, List.getD_cons_succ, mmV] at v11
        have hb := hdep 24 (by simp)
        have hc := Blk.cell hb 9
        simp only [List.getElem?_toArray, List.getElem?_cons_zero, List.getElem?_cons_succ] at hc
        simp only [v11] at hK ⊢
        go_wp2
        exact hK _ _ rfl trivial rfl
      | 13, ho =>
        simp only [List.getElem?_toArray, List.getElem?_cons_zero, List.getElem?_cons_succ, Option.some.injEq] at ho
        subst ho
        have v12 := hV 12 (by kernel_rfl)
        simp only [List.getD_cons_zero, List.getD_cons_succ, mmV] at v12
        simp only [v12] at hK ⊢
        go_wp2
        exact hK _ _ rfl trivial rfl
      | 14, ho =>
        simp only [List.getElem?_toArray, List.getElem?_cons_zero, List.getElem?_cons_succ, Option.some.injEq] at ho
        subst ho
        have v8 := hV 8 (by kernel_rfl)
        simp only [List.getD_cons_zero, List.getD_cons_succ, mmV] at v8
        have v13 := hV 13 (by kernel_rfl)
        simp only [List.getD_cons_zero, List.getD_cons_succ, mmV] at v13
        simp only [v8, v13] at hK ⊢
        obtain ⟨hp, hkd⟩ := hdep 25 (by simp)
        obtain ⟨-, hsz⟩ := hdep 26 (by simp)
        go_wp2_with fail
        refine (HS.out W hp).mono ?_
        intro e W2 hq
        cases hr : msP dn n (deep + 1) l with
        | no p c =>
          rw [hr] at hq
          obtain ⟨rfl, hk⟩ := hq
          refine ⟨rfl, ?_⟩
          rw [HR2.out, hr]
          exact ⟨rfl, hkd.trans (Kp.kd hk)⟩
        | ok y l' =>
          rw [hr] at hq
          obtain ⟨v, rfl, vs, F, rfl, hm, hp2, hk⟩ := hq
          have hl8 : vs.size = 8 := by
            have := hm.len
            rw [Ms_len] at this
            simpa using this
          exact hK (.agg vs) W2 ⟨vs, rfl, hl8, Array.all_eq_true_iff_forall_mem.2 fun v hv => hm.one v (by simpa using hv)⟩ ⟨y, l', vs, F, hr, rfl, hm.base hsz, hp2, hkd.trans (Kp.kd hk)⟩ hk
      | 15, ho =>
        simp only [List.getElem?_toArray, List.getElem?_cons_zero, List.getElem?_cons_succ, Option.some.injEq] at ho
        subst ho
        have v4 := hV 4 (by kernel_rfl)
        simp only [List.getD_cons_zero, List.getD_cons_succ, mmV] at v4
        simp only [v4] at hK ⊢
        go_wp2
        exact hK _ _ rfl trivial rfl
      | 16, ho =>
        simp only [List.getElem?_toArray, List.getElem?_cons_zero, List.getElem?_cons_succ, Option.some.injEq] at ho
        subst ho
        obtain ⟨-, hsz⟩ := hdep 26 (by simp)
        go_wp2
        exact hK _ _ ⟨W.heap.size, rfl⟩ ⟨W.heap.size, rfl, Blk.new W 49 _, hsz⟩ ⟨_, rfl⟩
      | 17, ho =>
        simp only [List.getElem?_toArray, List.getElem?_cons_zero, List.getElem?_cons_succ, Option.some.injEq] at ho
        subst ho
        have v4 := hV 4 (by kernel_rfl)
        simp only [List.getD_cons_zero, List.getD_cons_succ, mmV] at v4
        have v16 := hV 16 (by kernel_rfl)
        obtain ⟨y, l', vs, F, h1, h2, h3, h4, h5⟩ := hdep 14 (by simp)
        obtain ⟨q, hq1, hq2, hq3⟩ := hdep 16 (by simp)
        obtain ⟨hrw, hsz⟩ := hdep 26 (by simp)
        simp only [List.getD_cons_zero, List.getD_cons_succ, List.getElem?_cons_zero, List.getElem?_cons_succ, Option.getD_some] at h2 hq1
        simp only [v4, hq1] at hK ⊢
        refine wp_append_rows W _ _ 23 (by rfl) hrw 2 (rwMs x.msgs (.slice A1 x.msgs.length c1)) (by rfl) i0 _ 168 Tryz.underlying23 hi0 hz0 hz1 hz2 (by rfl) (Nat.succ_pos 7) (by rfl) q (by rfl) _ (Ms.dv Ty0 zMs) hq2 (by rfl) (zMs_mem W B) (by intro q hq; cases hq) hal (by decide) (Nat.le_trans hBS hsz) ?_
        intro v' w' ho hg hv
        rw [List.append_nil] at ho
        have hown : ∀ k, (Value.slice A1 x.msgs.length c1).ownBlock = some k → B ≤ k ∧ k < w1.heap.size := fun k e => (HE1.out.rows.own_mem (j := 2) rfl e).2
        obtain ⟨g2, c2, hv2, hg2⟩ := ho.val_pos (j := 2) rfl (Nat.succ_pos _)
        have hfar : ∀ i ∈ F, i ∉ owns ((mrows x ⟨vf, vo, .slice A1 x.msgs.length c1, ve, vr, vn⟩).set 2 ⟨49, 8, x.msgs.length + 1, x.msgs.flatMap (Ms.dv Ty0) ++ Ms.dv Ty0 zMs, v'⟩) := by
          intro i hi hm
          have hlt := h3.lt i hi
          rcases owns_set_mem _ _ _ _ hm with e | e
          · rcases hv with e2 | e2
            · have := hown i (by rw [← e]; exact e2.symm); omega
            · have e3 : v'.ownBlock = some i := e
              rw [e2] at e3; injection e3 with e3; omega
          · have := HE1.out.rows.own_lt i e; omega
        refine hK v' w' ⟨g2, c2, hv2, hg2⟩ ⟨y, l', vs, F, Ms.dv Ty0 zMs, h1, h2, ?_, ?_, ?_, ho, Ms_len _ _, hfar, Nat.le_trans hsz hg.size⟩ ⟨_, hg, fun k e => (hown k e).1⟩
        · exact h3.stays fun i hi => hg.block i (h3.lt i hi).2 fun e => by have := hown i e.symm; have := h3.lt i hi; omega
        · exact h4.kp (Kp.of_grown hg) (fun e => by have := hown b e.symm; omega) (fun e => by have := hown g e.symm; omega)
        · exact h5.grown hg fun i hi _ => .inr (.inr (hown i hi).1)
      | 18, ho =>
        simp only [List.getElem?_toArray, List.getElem?_cons_zero, List.getElem?_cons_succ, Option.some.injEq] at ho
        subst ho
        have v15 := hV 15 (by kernel_rfl)
        simp only [List.getD_cons_zero, List.getD_cons_succ, mmV] at v15
        have v17 := hV 17 (by kernel_rfl)
        simp only [List.getD_cons_zero, List.getD_cons_succ, List.getElem?_cons_zero, List.getElem?_cons_succ, Option.getD_some, mmV] at v17
        obtain ⟨g2, c2, hv2, hg2⟩ := v17
        simp only [v15, hv2] at hK ⊢
        refine wp_index_last 23 49 i0 8 g2 x.msgs.length c2 _ _ (by rfl) Tryz.underlying23 hi0 hz1 (by rfl) (by rfl) ?_
        exact hK _ _ trivial ⟨g2, c2, hv2, rfl⟩ rfl
      | 19, ho =>
        simp only [List.getElem?_toArray, List.getElem?_cons_zero, List.getElem?_cons_succ, Option.some.injEq] at ho
        subst ho
        have v17 := hV 17 (by kernel_rfl)
        obtain ⟨y, l', vs, F, dz, h1, h2, h3, h4, h5, h6, h7, h8, h9⟩ := hdep 17 (by simp)
        obtain ⟨g2, c2, h10, h11⟩ := hdep 18 (by simp)
        simp only [List.getD_cons_zero, List.getD_cons_succ, List.getElem?_cons_zero, List.getElem?_cons_succ, Option.getD_some] at h2 h6 h8 h10 h11
        have hl8 : vs.size = 8 := by
          have := h3.len
          rw [Ms_len] at this
          simpa using this
        obtain ⟨ht, hrow, hgr⟩ := h6.store_last 2 _ (by rfl) x.msgs.length (x.msgs.flatMap (Ms.dv Ty0)) dz (Ms.dv Ty0 y) vs.toList rfl rfl h7 (by simpa using hl8) h10 (h3.base hBS) h8
        have hg2 : B ≤ g2 := (h6.own_mem (j := 2) (q := g2) rfl (by show Value.ownBlock _ = _; rw [h10]; rfl)).2.1
        simp only [h2, h11] at hK ⊢
        refine wp_store_mid 49 _ _ (by rfl) g2 (x.msgs.length * 8) vs (by rfl) (by rfl) (by rw [hl8]; exact ht) (by rw [hl8, hi0]; simp [hz1]) (Array.all_eq_true_iff_forall_mem.2 fun v hv => h3.one v (by simpa using hv)) ?_
        refine hK undef _ trivial ⟨y, l', F, h1, hrow, ?_, ?_, Nat.le_trans h9 hgr.size⟩ ⟨g2, hgr, hg2⟩
        · exact h4.kp (Kp.of_grown hgr) (fun e => by injection e with e; omega) (fun e => by injection e with e; omega)
        · exact h5.grown hgr fun i hi _ => .inr (.inr (by injection hi with hi; omega))
      | 20, ho =>
        simp only [List.getElem?_toArray, List.getElem?_cons_zero, List.getElem?_cons_succ, Option.some.injEq] at ho
        subst ho
        have v0 := hV 0 (by kernel_rfl)
        simp only [List.getD_cons_zero, List.getD_cons_succ, mmV] at v0
        simp only [v0] at hK ⊢
        go_wp2
        exact hK _ _ rfl trivial rfl
      | 21, ho =>
        simp only [List.getElem?_toArray, List.getElem?_cons_zero, List.getElem?_cons_succ, Option.some.injEq] at ho
        subst ho
        have v20 := hV 20 (by kernel_rfl)
        simp only [List.getD_cons_zero, List.getD_cons_succ, mmV] at v20
        simp only [v20] at hK ⊢
        go_wp2
        exact hK _ _ rfl trivial rfl
      | 22, ho =>
        simp only [List.getElem?_toArray, List.getElem?_cons_zero, List.getElem?_cons_succ, Option.some.injEq] at ho
        subst ho
        have v21 := hV 21 (by kernel_rfl)
        simp only [List.getD_cons_zero, List.getD_cons_succ, mmV] at v21
        simp only [v21] at hK ⊢
        go_wp2
        exact hK _ _ rfl trivial rfl
      | 23, ho =>
        simp only [List.getElem?_toArray, List.getElem?_cons_zero, List.getElem?_cons_succ, Option.some.injEq] at ho
        subst ho
        have v17 := hV 17 (by kernel_rfl)
        have v22 := hV 22 (by kernel_rfl)
        simp only [List.getD_cons_zero, List.getD_cons_succ, mmV] at v22
        have hb := hdep 24 (by simp)
        have hc := Blk.cell hb 5
        have hf := Blk.frozen hb 5
        simp only [List.getElem?_toArray, List.getElem?_cons_zero, List.getElem?_cons_succ] at hc
        simp only [List.getD_cons_zero, List.getD_cons_succ, List.getElem?_cons_zero, List.getElem?_cons_succ, Option.getD_some, mmV] at v17
        obtain ⟨g2, c2, hv2, hg2⟩ := v17
        simp only [v22, hv2] at hK ⊢
        go_wp2
        exact hK undef _ trivial (by show Blk _ be 236 #[_, _, _, _, _, u 30, _, _, _, _]; rw [hv2]; exact Blk.set_ hb 5 _) ⟨_, rfl⟩
      | k + 24, ho => simp at ho
    case skip =>
      intro i o g b ho hg
      rw [no_guard (by kernel_rfl) ho] at hg
      cases hg
    case done =>
      intro u W hV hP
      obtain ⟨y, l', F, h1, h2, h3, h4, h5⟩ := hP 19 (by decide) (by decide)
      have hb := hP 23 (by decide) (by decide)
      rw [HR2.out, h1]
      go_end0
      refine ⟨_, rfl, rfl, ⟨⟨vf, vo, u 30, ve, vr, vn⟩, C ++ F, h3, hb, ?_, hlb, hlg, hlB, Nat.le_trans hBS h5⟩, h4⟩
      have h6 : Rows_ W B ((mrows x ⟨vf, vo, .slice A1 x.msgs.length c1, ve, vr, vn⟩).set 2 ⟨49, 8, x.msgs.length + 1, x.msgs.flatMap (Ms.dv Ty0) ++ Ms.dv Ty0 y, u 30⟩) (C ++ F) := h2
      rw [show (⟨49, 8, x.msgs.length + 1, x.msgs.flatMap (Ms.dv Ty0) ++ Ms.dv Ty0 y, u 30⟩ : Rw) = rwMs (x.msgs ++ [y]) (u 30) from rwMs_snoc x.msgs y (.slice none 0 0) (u 30)] at h6
      exact h6
end
end Go.Proofs.YthmdaejlopjjoaaGreatDoor
