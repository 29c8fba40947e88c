/-
  tree: an element of a file.
  tree: a file.
-/
import Derived.Test.YthmdaejlopjjoaaGreatDoorFlA
import Derived.Test.YthmdaejlopjjoaaGreatDoorTrF3
import Derived.Test.YthmdaejlopjjoaaGreatDoorTrF4
import Derived.Test.YthmdaejlopjjoaaGreatDoorTrF5
namespace Go.Proofs.YthmdaejlopjjoaaGreatDoor
section
open Go.RowKit
set_option linter.unusedVariables false
set_option linter.unusedSimpArgs false

theorem dotsF_len : ∀ (n : Nat) {b b' : ByteArray} {m m' : List Wd}, dotsF n b m = .ok b' m' → m'.length ≤ m.length := by
  intro n
  induction n with
  | zero => intro b b' m m' h; cases h
  | succ n ih =>
    intro b b' m m' h
    rw [dotsF] at h
    split at h
    · obtain ⟨w, l1, h1, h2⟩ := Pz.and_ok h
      have e := (ofP_len h1).2
      subst e
      have := ih h2; have := tail_le m; have := tail_le m.tail; omega
    · injection h with _ h; rw [h]; exact Nat.le_refl _
theorem fullP_len {st : ByteArray} {at_ : Nat} {m m' : List Wd} {b : ByteArray} (h : fullP st at_ m = .ok b m') : m'.length ≤ m.tail.length := by
  unfold fullP at h
  obtain ⟨w, l1, h1, k1⟩ := Pz.and_ok h
  obtain ⟨b2, l2, h2, k2⟩ := Pz.and_ok k1
  have e := (ofP_len h1).2
  subst e
  have := dotsF_len _ h2
  split at k2
  · cases k2
  · injection k2 with _ k3; subst k3; omega
theorem impP_len {y : Im} {l l' : List Wd} (h : impP l = .ok y l') : l'.length ≤ l.tail.length := by
  unfold impP at h
  obtain ⟨w, l1, h1, k1⟩ := Pz.and_ok h
  obtain ⟨u, l2, h2, k2⟩ := Pz.and_ok k1
  injection k2 with _ k3
  subst k3
  have e := (litP_len h1).2
  subst e
  have h5 := expP_len _ h2
  have h6 := tail_le l.tail
  by_cases hp : sayW l.tail = kPub
  · rw [if_pos hp] at h5
    have := tail_le l.tail.tail; omega
  · rw [if_neg hp] at h5
    omega
theorem svS_le {x x' : Sv} {l l' : List Wd} (h : svS x l = .ok x' l') : l'.length ≤ l.length := by
  unfold svS at h
  have := tail_le l
  split at h
  · injection h with _ h; rw [← h]; exact this
  · split at h
    · obtain ⟨v, l1, h1, k1⟩ := Pz.and_ok (roomP_ok h)
      injection k1 with _ k2
      subst k2
      have := rpcP_len h1; omega
    · cases h
theorem svP_len {x : Sv} {l l' : List Wd} (h : svP l = .ok x l') : l'.length ≤ l.tail.length := by
  unfold svP at h
  obtain ⟨w, l1, h1, k1⟩ := Pz.and_ok h
  have e := (ofP_len h1).2
  subst e
  have := blkP_len (fun _ _ _ _ h => svS_le h) k1; have := tail_le l.tail; omega
theorem fiS_len {dn : List Wd → Bool} {x x' : Tr} {l l' : List Wd} (hn : l.length = l.tail.length + 1) (h : fiS dn x l = .ok x' l') : l'.length < l.length := by
  unfold fiS at h
  have ht := tail_le l.tail
  split at h
  · injection h with _ h; rw [← h]; omega
  split at h
  · split at h
    · cases h
    · obtain ⟨s, l1, h1, k1⟩ := Pz.and_ok h
      obtain ⟨u, l2, h2, k2⟩ := Pz.and_ok k1
      injection k2 with _ k3
      subst k3
      have := fullP_len h1; have := expP_len _ h2; omega
  split at h
  · obtain ⟨v, l1, h1, k1⟩ := Pz.and_ok (roomP_ok h)
    injection k1 with _ k2
    subst k2
    have := impP_len h1; omega
  split at h
  · obtain ⟨v, l1, h1, k1⟩ := Pz.and_ok (roomP_ok h)
    injection k1 with _ k2
    subst k2
    have := msP_len dn _ _ h1; omega
  split at h
  · obtain ⟨v, l1, h1, k1⟩ := Pz.and_ok (roomP_ok h)
    injection k1 with _ k2
    subst k2
    have := enP_len h1; omega
  split at h
  · obtain ⟨v, l1, h1, k1⟩ := Pz.and_ok (roomP_ok h)
    injection k1 with _ k2
    subst k2
    have := svP_len h1; omega
  · cases h
/-- A file that is being read, beside the map of its elements. -/
def FiI (b g : Nat) (cur : Array Value) (be B mb : Nat) (W : World) (x : Tr) (l : List Wd) : Prop := (∃ V C, Fg W b g cur be B x V C l) ∧ MapS W mb (fiKey b be)
section
variable {w : World} {b g : Nat} {cur : Array Value} {l : List Wd}
theorem isSyntax_any (s : ByteArray) (W : World) (hs : s.size ≤ 65536) : Calls Tryz.prog 99 #[.string s] W fun e W' => e = .returned (.bool (decide (s = kP3))) ∧ Kn W W' := by
  have hb := ba_list s kP3
  have hk : kP3.toList = [112, 114, 111, 116, 111, 51] := by rw [Lib.toList_data]
  rw [hk] at hb
  go_enter Tryz.func99, Tryz.ntmps99
  go_wp2_with fail
  exact bodyPost_ret (v := .bool (decide (s = kP3))) (by simp [results, Tryz.results99, go_sem]) rfl ⟨rfl, Kp.refl _ _⟩
set_option maxHeartbeats 2000000 in
theorem fiElement_any (hX : Ext) {be B mb : Nat} (hmb : mb ≠ b ∧ mb ≠ be ∧ mb < B) {x : Tr} (h : FiI b g cur be B mb w x l) :
    Calls Tryz.prog 102 #[.pointer (some ⟨b, 0, none⟩), .map (some mb), .func (.func 103) #[.pointer (some ⟨b, 0, none⟩)] #[]] w
    (PzQ (fiS dnK x l) (Kd b be B w) fun x' l' v w' => v = .tuple #[] ∧ FiI b g cur be B mb w' x' l' ∧ Kd b be B w w' ∧ l'.length < l.length) := by
  obtain ⟨⟨V, C, hes⟩, hm⟩ := h
  have hgd := hes.ps.gd
  have hn := hgd.len
  have hmk : ∀ W', Kd b be B w W' → MapS W' mb (fiKey b be) := fun W' hk => hm.kn hk (by rintro (e | e | e) <;> omega)
  -- one of the readers that the map has
  have known : ∀ (F : Nat) (hF : F = 103 ∨ F = 147 ∨ F = 203 ∨ F = 205 ∨ F = 223 ∨ F = 224 ∨ F = 225 ∨ F = 226 ∨ F = 227 ∨ F = 228 ∨ F = 229 ∨ F = 148 ∨ F = 149 ∨ F = 150 ∨ F = 151 ∨ F = 152) (r : Pz Tr) (e : fiS dnK x l = r)
      (hlk : lookS (fiKey b be) (sayW l) = some (.func (.func F) #[.pointer (some ⟨be, 0, none⟩)] #[]))
      (hc : ∀ W, Kn w W → Calls Tryz.prog F #[.pointer (some ⟨be, 0, none⟩)] W (PzQ r (Kd b be B W) (FgK W b g cur be B))),
      Calls Tryz.prog 102 #[.pointer (some ⟨b, 0, none⟩), .map (some mb), .func (.func 103) #[.pointer (some ⟨b, 0, none⟩)] #[]] w
        (PzQ (fiS dnK x l) (Kd b be B w) fun x' l' v w' => v = .tuple #[] ∧ FiI b g cur be B mb w' x' l' ∧ Kd b be B w w' ∧ l'.length < l.length) := by
    intro F hF r e hlk hc
    rw [e]
    cases r with
    | no p c =>
      refine (element_known (T := fun w' => False) (N := fun p' c' w' => p' = p ∧ c' = c ∧ Kd b be B w w') hes.ps hm F _ _ hlk hF fun W hk => ?_).mono ?_
      · refine (hc W hk).mono ?_
        rintro e w' ⟨rfl, hk'⟩
        exact .inr ⟨p, c, rfl, rfl, rfl, (Kn.kd hk).trans hk'⟩
      · rintro e w' (⟨_, h⟩ | ⟨p', c', rfl, rfl, rfl, h⟩)
        · exact h.elim
        · exact ⟨rfl, h⟩
    | ok x' l' =>
      refine (element_known (T := fun w' => FiI b g cur be B mb w' x' l' ∧ Kd b be B w w') (N := fun p' c' w' => False) hes.ps hm F _ _ hlk hF fun W hk => ?_).mono ?_
      · refine (hc W hk).mono ?_
        rintro e w' ⟨v, rfl, rfl, hE, hk'⟩
        exact .inl ⟨rfl, ⟨hE, hmk _ ((Kn.kd hk).trans hk')⟩, (Kn.kd hk).trans hk'⟩
      · rintro e2 w' (⟨rfl, h3, h4⟩ | ⟨p', c', _, h⟩)
        · exact ⟨_, rfl, rfl, h3, h4, fiS_len hn e⟩
        · exact h.elim
  by_cases h1 : sayW l = kSemi
  · have e : fiS dnK x l = .ok x l.tail := by unfold fiS; rw [if_pos h1]
    rw [e]
    have hlk : lookS (fiKey b be) (sayW l) = some (.func (.func 147) #[.pointer (some ⟨b, 0, none⟩)] #[]) := by rw [h1]; rfl
    refine (element_known (T := fun w' => FiI b g cur be B mb w' x l.tail ∧ Kd b be B w w') (N := fun _ _ _ => False) hes.ps hm 147 _ _ hlk (by decide) fun W hk => ?_).mono ?_
    · refine (empty_any (hes.ps.kn hk) h1).mono ?_
      rintro e w' ⟨rfl, hp, hk'⟩
      have hkb : Kb b w w' := (Kn.kb hk b).trans hk'
      exact .inl ⟨rfl, ⟨⟨_, C, hes.next hp hkb⟩, hmk _ (Kp.kd hkb)⟩, Kp.kd hkb⟩
    · rintro e w' (⟨rfl, h2, h3⟩ | ⟨p, c, _, h⟩)
      · exact ⟨_, rfl, rfl, h2, h3, by omega⟩
      · exact h.elim
  by_cases h2 : sayW l = kPkg
  · refine known 148 (by decide) _ (by unfold fiS; rw [if_neg h1, if_pos h2]) (by rw [h2]; rfl) fun W hk => ?_
    exact fPackage_any (hes.kn hk) (hgd.k_s h2 (by decide))
  by_cases h3 : sayW l = kImp
  · refine known 149 (by decide) _ (by unfold fiS; rw [if_neg h1, if_neg h2, if_pos h3]) (by rw [h3]; rfl) fun W hk => ?_
    exact fImported_any hX (hes.kn hk) (hgd.k_s h3 (by decide))
  by_cases h4 : sayW l = kMsg
  · refine known 150 (by decide) _ (by unfold fiS; rw [if_neg h1, if_neg h2, if_neg h3, if_pos h4]) (by rw [h4]; rfl) fun W hk => ?_
    exact fMessage_any hX (hes.kn hk) (hgd.k_s h4 (by decide))
  by_cases h5 : sayW l = kEnum
  · refine known 151 (by decide) _ (by unfold fiS; rw [if_neg h1, if_neg h2, if_neg h3, if_neg h4, if_pos h5]) (by rw [h5]; rfl) fun W hk => ?_
    exact fEnum_any hX (hes.kn hk) (hgd.k_s h5 (by decide))
  by_cases h6 : sayW l = kSvc
  · refine known 152 (by decide) _ (by unfold fiS; rw [if_neg h1, if_neg h2, if_neg h3, if_neg h4, if_neg h5, if_pos h6]) (by rw [h6]; rfl) fun W hk => ?_
    exact fService_any hX (hes.kn hk) (hgd.k_s h6 (by decide))
  · have e : fiS dnK x l = refuse l := by unfold fiS; rw [if_neg h1, if_neg h2, if_neg h3, if_neg h4, if_neg h5, if_neg h6]
    rw [e]
    have hlk : lookS (fiKey b be) (sayW l) = none := by simp [fiKey, lookS, h1, h2, h3, h4, h5, h6]
    refine (element_other (T := fun w' => False) (N := fun p' c' w' => p' = (hdW l).p ∧ c' = 40 ∧ Kd b be B w w') hes.ps hm 103 _ hlk (by decide) fun W hk => ?_).mono ?_
    · refine (refuse_any (hes.ps.kn hk)).mono ?_
      rintro e w' ⟨rfl, hk'⟩
      exact .inr ⟨_, _, rfl, rfl, rfl, Kn.kd (hk.trans hk')⟩
    · rintro e w' (⟨_, h⟩ | ⟨p', c', rfl, rfl, rfl, h⟩)
      · exact h.elim
      · exact ⟨rfl, h⟩
end
end
section
open Go.RowKit
set_option linter.unusedVariables false
set_option linter.unusedSimpArgs false

theorem tr_dv_mem {w : World} {B : Nat} {x : Tr} {V : FV} {C : List Nat} (h : Rows_ w B (frows x V) C) : ∃ F, MemL w B (x.dv Ty0) [.string x.pkg, V.i, V.m, V.e, V.s] F := by
  obtain ⟨F, hm, -⟩ := h.mem
  exact ⟨[] ++ F, .cons _ _ _ _ _ _ (.at_ _ rfl) hm⟩
/-- A file that is not read yet, beside the result's place. -/
structure F0 (w0 w : World) (b g : Nat) (cur : Array Value) (r be : Nat) (l : List Wd) : Prop where
  ps : Ps w b g cur l
  obj : Blk w be 154 #[.pointer (some ⟨b, 0, none⟩), .string ⟨#[]⟩, .slice none 0 0, .slice none 0 0, .slice none 0 0, .slice none 0 0]
  res : Blk w r 27 #[.string ⟨#[]⟩, .slice none 0 0, .slice none 0 0, .slice none 0 0, .slice none 0 0]
  kp : Kb b w0 w
  br : b < r
  gr : g < r
  rb : r < be
  r0 : w0.heap.size ≤ r
section
variable {w0 w w' : World} {b g r be : Nat} {cur : Array Value} {l l' : List Wd}
theorem F0.next (h : F0 w0 w b g cur r be l) (hp : Ps w' b g cur l') (hk : Kb b w w') : F0 w0 w' b g cur r be l' :=
  ⟨hp, h.obj.kp hk (by have := h.br; have := h.rb; omega), h.res.kp hk (by have := h.br; omega), h.kp.trans hk, h.br, h.gr, h.rb, h.r0⟩
theorem F0.kn (h : F0 w0 w b g cur r be l) (hk : Kn w w') : F0 w0 w' b g cur r be l := h.next (h.ps.kn hk) (Kn.kb hk b)
theorem F0.alloc (h : F0 w0 w b g cur r be l) (o : Obj) : F0 w0 (w.alloc o) b g cur r be l := h.kn ((Kp.refl _ w).alloc o)
end
section
variable {w : World} {b g : Nat} {cur : Array Value} {l : List Wd}
set_option maxRecDepth 100000 in
set_option maxHeartbeats 4000000 in
theorem readFile_any (hX : Ext) (h : Ps w b g cur l) : Calls Tryz.prog 55 #[.pointer (some ⟨b, 0, none⟩)] w (PzQ (fileP dnK l) (Kb b w) (MdK (Tr.dv Ty0) w b g cur)) := by
  obtain ⟨R, hR⟩ : ∃ R, R = fileP dnK l := ⟨_, rfl⟩
  rw [← hR]
  unfold fileP at hR
  have HR := Lib.hid hR
  have HE0 := Lib.hid (show F0 w ((w.alloc (.cells #[.string ⟨#[]⟩, .slice none 0 0, .slice none 0 0, .slice none 0 0, .slice none 0 0] 27)).alloc (.cells #[.pointer (some ⟨b, 0, none⟩), .string ⟨#[]⟩, .slice none 0 0, .slice none 0 0, .slice none 0 0, .slice none 0 0] 154)) b g cur w.heap.size (w.heap.size + 1) l from
    ⟨(h.alloc _).alloc _, by have := Blk.new (w.alloc (.cells #[.string ⟨#[]⟩, .slice none 0 0, .slice none 0 0, .slice none 0 0, .slice none 0 0] 27)) 154 #[.pointer (some ⟨b, 0, none⟩), .string ⟨#[]⟩, .slice none 0 0, .slice none 0 0, .slice none 0 0, .slice none 0 0]; rwa [World.size_alloc] at this,
     (Blk.new w 27 _).alloc _, ((Kp.refl _ w).alloc _).alloc _, h.lt, h.gb.lt, Nat.lt_succ_self _, Nat.le_refl _⟩)
  clear h hR
  go_enter Tryz.func55, Tryz.ntmps55
  have HX := Lib.hid (exp_at [kSyn, kEq] #[.string kSyn, .string kEq] 2 rfl rfl (by decide) (by decide) HE0.out.ps)
  rw [World.size_alloc, World.size_alloc] at HX
  have hd0 : ∀ o, (((w.alloc (.cells #[.string ⟨#[]⟩, .slice none 0 0, .slice none 0 0, .slice none 0 0, .slice none 0 0] 27)).alloc (.cells #[.pointer (some ⟨b, 0, none⟩), .string ⟨#[]⟩, .slice none 0 0, .slice none 0 0, .slice none 0 0, .slice none 0 0] 154)).alloc o).cell? ⟨w.heap.size + 1, 0, none⟩ = some (.pointer (some ⟨b, 0, none⟩)) := fun o => (HE0.out.alloc o).obj.cell 0
  go_wp2_with fail
  refine HX.out.mono ?_
  intro e w1 hq
  clear hd0
  cases hr : expP [kSyn, kEq] l with
  | no p c =>
    rw [hr] at hq
    obtain ⟨rfl, hk⟩ := hq
    have HK := Lib.hid (HE0.out.kp.trans hk)
    have HR2 := Lib.hid (show R = .no p c by rw [HR.out, hr]; first | rfl | skip)
    clear hk hr HR HX HE0
    unfold Stp stopV
    go_wp2_with fail
    rw [HR2.out]
    exact ⟨rfl, rfl, HK.out⟩
  | ok u l1 =>
    rw [hr] at hq
    obtain ⟨v, rfl, rfl, hp, hk⟩ := hq
    have hR2 := HR.out
    rw [hr] at hR2
    simp only [Pz.and] at hR2
    have HR2 := Lib.hid hR2
    have HE1 := Lib.hid (HE0.out.next hp hk)
    clear hk hr HR HX hp hR2 HE0
    have hr0 : w.heap.size + 1 < w1.heap.size := HE1.out.obj.lt
    generalize hbe : w.heap.size + 1 = be at *
    generalize hrr : w.heap.size = r at *
    have d0 : w1.cell? ⟨be, 0, none⟩ = some (.pointer (some ⟨b, 0, none⟩)) := HE1.out.obj.cell 0
    have HL := Lib.hid (literal_any HE1.out.ps 99 (by decide) (fun s => decide (s = kP3)) isSyntax_any)
    go_wp2_with fail
    refine HL.out.mono ?_
    intro e w2 hq
    clear d0
    cases hr : litP (fun s => decide (s = kP3)) l1 with
    | no p c =>
      rw [hr] at hq
      obtain ⟨rfl, hk⟩ := hq
      have HK := Lib.hid (HE1.out.kp.trans hk)
      have HR3 := Lib.hid (show R = .no p c by rw [HR2.out, hr]; first | rfl | skip)
      clear hk hr HR2 HL HE1
      unfold Stp stopV
      go_wp2_with fail
      rw [HR3.out]
      exact ⟨rfl, rfl, HK.out⟩
    | ok y l2 =>
      rw [hr] at hq
      obtain ⟨v, rfl, rfl, rfl, rfl, hp, hk⟩ := hq
      have hR3 := HR2.out
      rw [hr] at hR3
      simp only [Pz.and] at hR3
      have HR3 := Lib.hid hR3
      have HE2 := Lib.hid (HE1.out.next hp hk)
      generalize hdW l1 = y at *
      generalize l1.tail = l2 at *
      clear hk hr HR2 HL hp hR3 HE1 hr0
      unfold wV
      have hr0 : be < w2.heap.size := HE2.out.obj.lt
      have d0 : w2.cell? ⟨be, 0, none⟩ = some (.pointer (some ⟨b, 0, none⟩)) := HE2.out.obj.cell 0
      have hd0 : ∀ o, (w2.alloc o).cell? ⟨be, 0, none⟩ = some (.pointer (some ⟨b, 0, none⟩)) := fun o => (HE2.out.alloc o).obj.cell 0
      have HX := Lib.hid (exp_at [kSemi] #[.string kSemi] 1 rfl rfl (by decide) (by decide) HE2.out.ps)
      go_wp2_with fail
      refine HX.out.mono ?_
      intro e w3 hq
      clear hd0 d0
      cases hr : expP [kSemi] l2 with
      | no p c =>
        rw [hr] at hq
        obtain ⟨rfl, hk⟩ := hq
        have HK := Lib.hid (HE2.out.kp.trans hk)
        have HR4 := Lib.hid (show R = .no p c by rw [HR3.out, hr]; first | rfl | skip)
        clear hk hr HR3 HX HE2
        unfold Stp stopV
        go_wp2_with fail
        rw [HR4.out]
        exact ⟨rfl, rfl, HK.out⟩
      | ok u l3 =>
        rw [hr] at hq
        obtain ⟨v, rfl, rfl, hp, hk⟩ := hq
        have hR4 := HR3.out
        rw [hr] at hR4
        simp only [Pz.and] at hR4
        have HR4 := Lib.hid hR4
        have HE3 := Lib.hid (HE2.out.next hp hk)
        clear hk hr HR3 HX hp hR4 HE2 hr0
        have hr0 : be < w3.heap.size := HE3.out.obj.lt
        have d0 : w3.cell? ⟨be, 0, none⟩ = some (.pointer (some ⟨b, 0, none⟩)) := HE3.out.obj.cell 0
        have HM := Lib.hid (fElements_any (w := w3) d0)
        go_wp2_with fail
        refine HM.out.mono ?_
        rintro e w4 ⟨rfl, hm, hk, hsz⟩
        have HE4 := Lib.hid (HE3.out.kn hk)
        have HF := Lib.hid (show FiI b g cur be w4.heap.size w3.heap.size w4 ⟨kNone, [], [], [], []⟩ l3 from
          ⟨⟨⟨.slice none 0 0, .slice none 0 0, .slice none 0 0, .slice none 0 0⟩, [], HE4.out.ps, HE4.out.obj, Rows_.nils _ _ [(37, 3), (49, 8), (52, 5), (86, 3)], by have := HE4.out.br; have := HE4.out.rb; omega, by have := HE4.out.gr; have := HE4.out.rb; omega, by omega, Nat.le_refl _⟩, hm⟩)
        have hmb : w3.heap.size ≠ b ∧ w3.heap.size ≠ be ∧ w3.heap.size < w4.heap.size := ⟨by have := HE4.out.br; have := HE4.out.rb; omega, by omega, hsz⟩
        generalize w3.heap.size = mb at *
        clear hm hk HM HE3 d0
        go_wp2_with fail
        go_loopg [] (l3.length + 1) (fun gg wr => ∃ (n : Nat) (x : Tr) (l' : List Wd), gg = l'.length + 1 ∧ l'.length < n ∧ R = fisF dnK n x l' ∧ FiI b g cur be w4.heap.size mb wr x l' ∧ Kd b be w4.heap.size w4 wr)
        case atStart => exact ⟨_, _, l3, rfl, Nat.lt_succ_self _, HR4.out, HF.out, Kp.refl _ w4⟩
        case round =>
          obtain ⟨n, x, l', rfl, hn, hfin, hinv, hkr⟩ := hrel
          obtain ⟨n, rfl⟩ : ∃ k, n = k + 1 := ⟨n - 1, by omega⟩
          rw [fisF] at hfin
          have HFIN := Lib.hid hfin
          have HI2 := Lib.hid hinv
          have HKR := Lib.hid hkr
          obtain ⟨⟨V, C, hes⟩, hm⟩ := hinv
          have d0 := hes.ptr.1
          have HNX := Lib.hid (next_any hes.ps)
          clear hfin hkr HF HR4 hes hm
          go_wp2_with fail
          refine HNX.out.mono ?_
          rintro e w5 ⟨rfl, hk⟩
          have HI5 := Lib.hid (show FiI b g cur be w4.heap.size mb w5 x l' from by obtain ⟨⟨V, C, h⟩, hm⟩ := HI2.out; exact ⟨⟨V, C, h.kn hk⟩, hm.kn hk (fun f => f)⟩)
          have HK5 := Lib.hid (HKR.out.trans (Kn.kd hk))
          have hfld := fld0
          clear hk HNX d0 HI2 HKR V C
          unfold wV
          by_cases hk0 : (hdW l').k = 0
          · have hki : ((hdW l').k : Int) = 0 := by omega
            rw [hki]
            have HR5 := Lib.hid (show R = .ok x l' by rw [HFIN.out, if_pos hk0])
            have HB5 := Lib.hid (HE4.out.res.kp HK5.out (by have := HE4.out.br; have := HE4.out.rb; have := HE4.out.obj.lt; rintro (e | e | e) <;> omega))
            obtain ⟨⟨⟨v1, v2, v3, v4⟩, C, hes⟩, -⟩ := HI5.out
            have HE5 := Lib.hid hes
            obtain ⟨A1, c1, hv1, -, -⟩ := hes.rows.val (j := 0) rfl
            obtain ⟨A2, c2, hv2, -, -⟩ := hes.rows.val (j := 1) rfl
            obtain ⟨A3, c3, hv3, -, -⟩ := hes.rows.val (j := 2) rfl
            obtain ⟨A4, c4, hv4, -, -⟩ := hes.rows.val (j := 3) rfl
            simp only at hv1 hv2 hv3 hv4
            subst hv1 hv2 hv3 hv4
            have e1 : w5.cell? ⟨be, 1, none⟩ = some (.string x.pkg) := hes.blk.cell 1
            have e2 : w5.cell? ⟨be, 2, none⟩ = some (.slice A1 x.imps.length c1) := hes.blk.cell 2
            have e3 : w5.cell? ⟨be, 3, none⟩ = some (.slice A2 x.msgs.length c2) := hes.blk.cell 3
            have e4 : w5.cell? ⟨be, 4, none⟩ = some (.slice A3 x.enums.length c3) := hes.blk.cell 4
            have e5 : w5.cell? ⟨be, 5, none⟩ = some (.slice A4 x.svcs.length c4) := hes.blk.cell 5
            obtain ⟨⟨q0, q1, q2, q3, q4⟩, f0, f1, f2, f3, f4⟩ := HB5.out.five_
            have hbe5 := hes.blk.lt
            clear HFIN hk0 hki hes HI5
            go_wp2_with fail
            have hbr := HE4.out.br
            have hgr := HE4.out.gr
            have hrb := HE4.out.rb
            have hbw := HE4.out.obj.lt
            have P1 := Lib.hid (HE5.out.ps.kp (Kp.put5 (S := fun k => k = r) (Kp.refl _ w5) (fun _ => rfl) (.string x.pkg) (.slice A1 x.imps.length c1) (.slice A2 x.msgs.length c2) (.slice A3 x.enums.length c3) (.slice A4 x.svcs.length c4)) (by omega) (by omega))
            have K1 := Lib.hid (Kp.put5 (q := r) (show Kb b w w5 from HE4.out.kp.trans' HK5.out (fun i e hi => by rcases e with e | e | e; exact e; omega; omega)) (fun h => by omega) (.string x.pkg) (.slice A1 x.imps.length c1) (.slice A2 x.msgs.length c2) (.slice A3 x.enums.length c3) (.slice A4 x.svcs.length c4))
            have R1 := Lib.hid (HE5.out.rows.kp (Kp.put5 (S := fun k => k = r) (Kp.refl _ w5) (fun _ => rfl) (.string x.pkg) (.slice A1 x.imps.length c1) (.slice A2 x.msgs.length c2) (.slice A3 x.enums.length c3) (.slice A4 x.svcs.length c4)) (fun i e => by omega))
            obtain ⟨⟨z0, z1, z2, z3, z4⟩, -⟩ := (HB5.out.put5 (.string x.pkg) (.slice A1 x.imps.length c1) (.slice A2 x.msgs.length c2) (.slice A3 x.enums.length c3) (.slice A4 x.svcs.length c4)).five_
            generalize World.setCell (World.setCell (World.setCell (World.setCell (World.setCell w5 _ _) _ _) _ _) _ _) _ _ = w7 at *
            obtain ⟨F, hm⟩ := tr_dv_mem R1.out
            have hbs : w.heap.size ≤ w4.heap.size := by omega
            rw [HR5.out]
            exact bodyPost_ret (v := .agg #[.string x.pkg, .slice A1 x.imps.length c1, .slice A2 x.msgs.length c2, .slice A3 x.enums.length c3, .slice A4 x.svcs.length c4]) (by simp [results, Tryz.results55, go_sem, z0, z1, z2, z3, z4]) rfl ⟨_, rfl, _, _, rfl, hm.base hbs, P1.out, K1.out⟩
          · have hki : ¬ ((hdW l').k : Int) = 0 := by omega
            have HR5 := Lib.hid (show R = (fiS dnK x l').and fun x l => fisF dnK n x l by rw [HFIN.out, if_neg hk0])
            generalize ((hdW l').k : Int) = kk at *
            have d0 : w5.cell? ⟨be, 0, none⟩ = some (.pointer (some ⟨b, 0, none⟩)) := by obtain ⟨⟨V, C, h⟩, -⟩ := HI5.out; exact h.ptr.1
            have hlt5 : be < w5.heap.size := by obtain ⟨⟨V, C, h⟩, -⟩ := HI5.out; exact h.ptr.2
            clear HFIN hk0
            have HI6 := Lib.hid (show FiI b g cur be w4.heap.size mb w5.drew x l' from by obtain ⟨⟨V, C, h⟩, hm⟩ := HI5.out; exact ⟨⟨V, C, h.drew⟩, hm.kn (Kp.refl (fun _ => False) w5).drew (fun f => f)⟩)
            have HC := Lib.hid (fiElement_any hX hmb HI6.out)
            clear HI5 HI6
            go_wp2_with fail
            go_still_tail 10, (by kernel_rfl)
            change wpList _ _ _ _ _ w5.drew
            go_wp2_with fail
            refine HC.out.mono ?_
            intro e w6 hq
            cases hr : fiS dnK x l' with
            | no p c =>
              rw [hr] at hq
              obtain ⟨rfl, hk⟩ := hq
              have hbr := HE4.out.br
              have hrb := HE4.out.rb
              have hbw := HE4.out.obj.lt
              have HK6 := Lib.hid (show Kb b w w6 from HE4.out.kp.trans' (HK5.out.trans (Kp.trans (Kp.refl _ w5).drew hk)) (fun i e hi => by rcases e with e | e | e; exact e; omega; omega))
              have HR6 := Lib.hid (show R = .no p c by rw [HR5.out, hr]; first | rfl | skip)
              clear hk hr HR5 HC
              unfold Stp stopV
              go_wp2_with fail
              rw [HR6.out]
              exact ⟨rfl, rfl, HK6.out⟩
            | ok x2 l2 =>
              rw [hr] at hq
              obtain ⟨v, rfl, rfl, hinv, hk, hlt⟩ := hq
              have HK6 := Lib.hid (HK5.out.trans (Kp.trans (Kp.refl _ w5).drew hk))
              have HI7 := Lib.hid hinv
              have HR6 := Lib.hid (show R = fisF dnK n x2 l2 by rw [HR5.out, hr]; first | rfl | skip)
              clear hk hr HR5 HC hinv d0
              go_wp2_with fail
              go_roundg (l2.length + 1)
              case measure => omega
              case rel => exact ⟨n, x2, l2, rfl, by omega, HR6.out, HI7.out, HK6.out⟩
end
end
end Go.Proofs.YthmdaejlopjjoaaGreatDoor
