/-
  tree: what is read of the same words at other places is the same, but for its places. No program.
  tree: what a file's words are read as is small: its names and lists. No program.
  tree: rows in memory, element by element; lists that are compared. No program.
-/
import Derived.Test.YthmdaejlopjjoaaGreatDoorTmA
namespace Go.Proofs.YthmdaejlopjjoaaGreatDoor
section
open Go.RowKit
set_option linter.unusedVariables false
set_option linter.unusedSimpArgs false

def Wd.er (w : Wd) : Wd := ⟨w.k, 0, w.t, w.n⟩
def erL (l : List Wd) : List Wd := l.map Wd.er
theorem hdW_er (l : List Wd) : hdW (erL l) = (hdW l).er := by cases l <;> rfl
theorem erL_tail (l : List Wd) : (erL l).tail = erL l.tail := by cases l <;> rfl
theorem erL_len (l : List Wd) : (erL l).length = l.length := List.length_map ..
theorem sayW_er (l : List Wd) : sayW (erL l) = sayW l := by unfold sayW; rw [hdW_er]; rfl
theorem hdk_er (l : List Wd) : (hdW (erL l)).k = (hdW l).k := by rw [hdW_er]; rfl
theorem hdt_er (l : List Wd) : (hdW (erL l)).t = (hdW l).t := by rw [hdW_er]; rfl
theorem hdp_er (l : List Wd) : (hdW (erL l)).p = 0 := by rw [hdW_er]; rfl
/-- What is read, its places turned to nothing. -/
def Pz.er {α β : Type} (f : α → β) : Pz α → Pz β
  | .no _ e => .no 0 e
  | .ok a l => .ok (f a) (erL l)
theorem Pz.er_and {α β α' β' : Type} {g : α → α'} {h : β → β'} {x : Pz α} {x' : Pz α'} {f : α → List Wd → Pz β} {f' : α' → List Wd → Pz β'} (hx : x' = x.er g) (hf : ∀ a l, f' (g a) (erL l) = (f a l).er h) : x'.and f' = (x.and f).er h := by
  subst hx
  cases x with
  | no p e => rfl
  | ok a l => exact hf a l
theorem Pz.er_no {α β : Type} {f : α → β} (p e : Nat) : Pz.no 0 e = (Pz.no p e : Pz α).er f := rfl
theorem Pz.er_ok {α β : Type} {f : α → β} (a : α) (l : List Wd) : Pz.ok (f a) (erL l) = (Pz.ok a l).er f := rfl
theorem refuse_er {α β : Type} {f : α → β} (l : List Wd) : refuse (erL l) = (refuse l : Pz α).er f := by unfold refuse; rw [hdp_er]; rfl
theorem roomP_er {α β : Type} {f : α → β} {n m : Nat} {l : List Wd} {r : Pz α} {r' : Pz β} (h : r' = r.er f) : roomP n m (erL l) r' = (roomP n m l r).er f := by
  unfold roomP
  rw [hdp_er, h]
  split <;> rfl
theorem expP_er : ∀ (ss : List ByteArray) (l : List Wd), expP ss (erL l) = (expP ss l).er id
  | [], l => rfl
  | s :: r, l => by
    rw [expP, expP, sayW_er, erL_tail]
    split
    · exact expP_er r l.tail
    · exact refuse_er l
theorem ofP_er (k : Nat) (l : List Wd) : ofP k (erL l) = (ofP k l).er Wd.er := by
  unfold ofP
  rw [hdk_er, erL_tail, hdW_er]
  split
  · rfl
  · exact refuse_er l
theorem litP_er (f : ByteArray → Bool) (l : List Wd) : litP f (erL l) = (litP f l).er Wd.er := by
  unfold litP
  rw [hdt_er]
  split
  · exact ofP_er 3 l
  · exact refuse_er l
theorem numP_er (b : Bool) (l : List Wd) : numP b (erL l) = (numP b l).er id := by
  unfold numP
  rw [sayW_er, erL_tail]
  split
  · exact Pz.er_and (ofP_er 2 l.tail) fun w l => rfl
  · exact Pz.er_and (ofP_er 2 l) fun w l => rfl
theorem dotsF_er : ∀ (n : Nat) (b : ByteArray) (l : List Wd), dotsF n b (erL l) = (dotsF n b l).er id
  | 0, b, l => rfl
  | n + 1, b, l => by
    rw [dotsF, dotsF, sayW_er, erL_tail]
    split
    · exact Pz.er_and (ofP_er 1 l.tail) fun w l => dotsF_er n _ l
    · rfl
theorem fullP_er (s : ByteArray) (a : Nat) (l : List Wd) : fullP s 0 (erL l) = (fullP s a l).er id := by
  unfold fullP
  refine Pz.er_and (ofP_er 1 l) fun w l => ?_
  rw [erL_len]
  refine Pz.er_and (dotsF_er _ _ l) fun b l => ?_
  show (if 128 < b.size then Pz.no 0 5 else Pz.ok b (erL l)) = _
  split <;> rfl
theorem nameP_er (l : List Wd) : nameP (erL l) = (nameP l).er id := by
  unfold nameP
  rw [sayW_er, erL_tail, hdp_er]
  split
  · exact fullP_er _ _ l.tail
  · exact fullP_er _ _ l
theorem blkF_er {σ τ : Type} {g : σ → τ} {step : σ → List Wd → Pz σ} {step' : τ → List Wd → Pz τ} (hs : ∀ x l, step' (g x) (erL l) = (step x l).er g) : ∀ (n : Nat) (x : σ) (l : List Wd), blkF step' n (g x) (erL l) = (blkF step n x l).er g
  | 0, x, l => rfl
  | n + 1, x, l => by
    rw [blkF, blkF, sayW_er, erL_tail]
    split
    · rfl
    · exact Pz.er_and (hs x l) fun x l => blkF_er hs n x l
theorem blkP_er {σ τ : Type} {g : σ → τ} {step : σ → List Wd → Pz σ} {step' : τ → List Wd → Pz τ} (hs : ∀ x l, step' (g x) (erL l) = (step x l).er g) (x : σ) (l : List Wd) : blkP step' (g x) (erL l) = (blkP step x l).er g := by
  unfold blkP
  refine Pz.er_and (expP_er _ l) fun _ l => ?_
  rw [erL_len]
  exact blkF_er hs _ x l

/-! Without places. -/
def Im.bare (x : Im) : Im := ⟨x.path, x.pub, 0⟩
def Tx.bare (x : Tx) : Tx := ⟨x.s, 0⟩
def Sp.bare (x : Sp) : Sp := ⟨x.lo, x.hi, 0⟩
def Fd.bare (x : Fd) : Fd := ⟨x.name, x.typ, x.key, x.json, x.card, x.num, x.oneof, 0, 0, 0⟩
def Vl.bare (x : Vl) : Vl := ⟨x.name, x.num, 0⟩
def En.bare (x : En) : En := ⟨x.name, 0, x.vals.map Vl.bare, x.rngs.map Sp.bare, x.nams.map Tx.bare⟩
def Rp.bare (x : Rp) : Rp := ⟨x.name, x.inn, x.out, 0, 0, 0⟩
def Sv.bare (x : Sv) : Sv := ⟨x.name, 0, x.rpcs.map Rp.bare⟩
mutual
def Ms.bare : Ms → Ms
  | ⟨name, at_, flds, onos, msgs, enums, rngs, nams⟩ => ⟨name, 0, flds.map Fd.bare, onos.map Tx.bare, bareL msgs, enums.map En.bare, rngs.map Sp.bare, nams.map Tx.bare⟩
def bareL : List Ms → List Ms
  | [] => []
  | m :: l => Ms.bare m :: bareL l
end
theorem bareL_eq : ∀ l, bareL l = l.map Ms.bare
  | [] => rfl
  | m :: l => by rw [bareL, bareL_eq l, List.map_cons]
def Tr.bare (x : Tr) : Tr := ⟨x.pkg, x.imps.map Im.bare, x.msgs.map Ms.bare, x.enums.map En.bare, x.svcs.map Sv.bare⟩
theorem Ms.bare_eq (m : Ms) : m.bare = ⟨m.name, 0, m.flds.map Fd.bare, m.onos.map Tx.bare, m.msgs.map Ms.bare, m.enums.map En.bare, m.rngs.map Sp.bare, m.nams.map Tx.bare⟩ := by
  cases m
  rw [Ms.bare, bareL_eq]

theorem spanP_er (max : Int) (b : Bool) (l : List Wd) : spanP max b (erL l) = (spanP max b l).er Sp.bare := by
  unfold spanP
  refine Pz.er_and (numP_er b l) fun lo l2 => ?_
  simp only [sayW_er, erL_tail, hdp_er, id]
  split
  · split
    · split <;> rfl
    · refine Pz.er_and (numP_er b l2.tail) fun hi l3 => ?_
      simp only [id]
      split <;> rfl
  · rfl
theorem rngsF_er (max : Int) (b : Bool) : ∀ (n : Nat) (a : List Sp) (l : List Wd), rngsF max b n (a.map Sp.bare) (erL l) = (rngsF max b n a l).er (List.map Sp.bare)
  | 0, a, l => rfl
  | n + 1, a, l => by
    rw [rngsF, rngsF, List.length_map]
    refine roomP_er (Pz.er_and (spanP_er max b l) fun x l => ?_)
    simp only [sayW_er, erL_tail]
    split
    · have := rngsF_er max b n (a ++ [x]) l.tail
      rw [List.map_append] at this
      exact this
    · rw [← Pz.er_ok, List.map_append]; rfl
theorem namsF_er : ∀ (n : Nat) (a : List Tx) (l : List Wd), namsF n (a.map Tx.bare) (erL l) = (namsF n a l).er (List.map Tx.bare)
  | 0, a, l => rfl
  | n + 1, a, l => by
    rw [namsF, namsF, List.length_map]
    refine roomP_er (Pz.er_and (litP_er _ l) fun x l => ?_)
    simp only [sayW_er, erL_tail]
    split
    · have := namsF_er n (a ++ [⟨x.t, x.p⟩]) l.tail
      rw [List.map_append] at this
      exact this
    · rw [← Pz.er_ok, List.map_append]; rfl
theorem resP_er (max : Int) (b : Bool) (r : List Sp) (t : List Tx) (l : List Wd) : resP max b (r.map Sp.bare) (t.map Tx.bare) (erL l) = (resP max b r t l).er fun q => (q.1.map Sp.bare, q.2.map Tx.bare) := by
  unfold resP
  rw [erL_tail, hdk_er, erL_len]
  split
  · exact Pz.er_and (namsF_er _ t l.tail) fun t l => Pz.er_and (expP_er _ l) fun _ l => rfl
  · exact Pz.er_and (rngsF_er max b _ r l.tail) fun r l => Pz.er_and (expP_er _ l) fun _ l => rfl
theorem valP_er (l : List Wd) : valP (erL l) = (valP l).er Vl.bare := by
  unfold valP
  exact Pz.er_and (ofP_er 1 l) fun w l => Pz.er_and (expP_er _ l) fun _ l => Pz.er_and (numP_er true l) fun n l => Pz.er_and (expP_er _ l) fun _ l => rfl
theorem enS_er (x : En) (l : List Wd) : enS x.bare (erL l) = (enS x l).er En.bare := by
  unfold enS
  rw [sayW_er, erL_tail]
  split
  · rfl
  split
  · exact Pz.er_and (resP_er _ _ x.rngs x.nams l) fun r l => rfl
  split
  · exact refuse_er l
  · rw [show x.bare.vals.length = x.vals.length from List.length_map ..]
    refine roomP_er (Pz.er_and (valP_er l) fun v l => ?_)
    rw [← Pz.er_ok]
    unfold En.bare
    simp only [List.map_append, List.map_cons, List.map_nil]
theorem enP_er (l : List Wd) : enP (erL l) = (enP l).er En.bare := by
  unfold enP
  rw [erL_tail]
  exact Pz.er_and (ofP_er 1 l.tail) fun w l => blkP_er enS_er ⟨w.t, w.p, [], [], []⟩ l
theorem namedP_er (f : Fd) (l : List Wd) : namedP f.bare (erL l) = (namedP f l).er Fd.bare := by
  unfold namedP
  refine Pz.er_and (ofP_er 1 l) fun w l => Pz.er_and (expP_er _ l) fun _ l => Pz.er_and (ofP_er 2 l) fun n l => ?_
  refine Pz.er_and (g := id) ?_ fun j l => Pz.er_and (expP_er _ l) fun _ l => rfl
  rw [sayW_er, erL_tail]
  split
  · exact Pz.er_and (expP_er _ l.tail) fun _ l => Pz.er_and (ofP_er 3 l) fun j l => Pz.er_and (expP_er _ l) fun _ l => rfl
  · rfl
theorem typedP_er (c o : Int) (l : List Wd) : typedP c o (erL l) = (typedP c o l).er Fd.bare := by
  unfold typedP
  rw [hdp_er]
  exact Pz.er_and (nameP_er l) fun s l2 => namedP_er ⟨kNone, s, kNone, kNone, c, 0, o, 0, (hdW l).p, 0⟩ l2
theorem mapP_er (l : List Wd) : mapP (erL l) = (mapP l).er Fd.bare := by
  unfold mapP
  refine Pz.er_and (expP_er _ l) fun _ l1 => ?_
  rw [hdp_er]
  exact Pz.er_and (nameP_er l1) fun key l => Pz.er_and (expP_er _ l) fun _ l => Pz.er_and (nameP_er l) fun s l => Pz.er_and (expP_er _ l) fun _ l => namedP_er ⟨kNone, s, key, kNone, 4, 0, -1, 0, (hdW l1).p, 0⟩ l
theorem addF_er (m : Ms) {r r' : Pz Fd} (h : r' = r.er Fd.bare) : addF m.bare r' = (addF m r).er Ms.bare := by
  unfold addF
  refine Pz.er_and h fun f l => ?_
  rw [← Pz.er_ok, Ms.bare_eq, Ms.bare_eq]
  simp only [List.map_append, List.map_cons, List.map_nil]
theorem flds_bare (m : Ms) : m.bare.flds.length = m.flds.length := by rw [Ms.bare_eq]; exact List.length_map ..
theorem onos_bare (m : Ms) : m.bare.onos.length = m.onos.length := by rw [Ms.bare_eq]; exact List.length_map ..
theorem msgs_bare (m : Ms) : m.bare.msgs.length = m.msgs.length := by rw [Ms.bare_eq]; exact List.length_map ..
theorem enums_bare (m : Ms) : m.bare.enums.length = m.enums.length := by rw [Ms.bare_eq]; exact List.length_map ..
theorem onS_er (m : Ms) (l : List Wd) : onS m.bare (erL l) = (onS m l).er Ms.bare := by
  unfold onS
  rw [sayW_er, erL_tail]
  split
  · rfl
  split
  · exact refuse_er l
  · rw [flds_bare, onos_bare]
    exact roomP_er (addF_er m (typedP_er _ _ l))
theorem onP_er (m : Ms) (l : List Wd) : onP m.bare (erL l) = (onP m l).er Ms.bare := by
  unfold onP
  rw [onos_bare, erL_tail]
  refine roomP_er (Pz.er_and (ofP_er 1 l.tail) fun w l => ?_)
  have := blkP_er onS_er { m with onos := m.onos ++ [⟨w.t, w.p⟩] } l
  rw [← this]
  congr 1
  rw [Ms.bare_eq, Ms.bare_eq]
  simp only [List.map_append, List.map_cons, List.map_nil]
  rfl
theorem msS_er {sub : List Wd → Pz Ms} (hsub : ∀ l, sub (erL l) = (sub l).er Ms.bare) (m : Ms) (l : List Wd) : msS sub m.bare (erL l) = (msS sub m l).er Ms.bare := by
  unfold msS
  rw [sayW_er, erL_tail, flds_bare, msgs_bare, enums_bare]
  split
  · rfl
  split
  · refine roomP_er (Pz.er_and (hsub l) fun x l => ?_)
    rw [← Pz.er_ok, Ms.bare_eq, Ms.bare_eq]
    simp only [List.map_append, List.map_cons, List.map_nil, Ms.bare_eq]
  split
  · refine roomP_er (Pz.er_and (enP_er l) fun x l => ?_)
    rw [← Pz.er_ok, Ms.bare_eq, Ms.bare_eq]
    simp only [List.map_append, List.map_cons, List.map_nil]
  split
  · exact onP_er m l
  split
  · have h := resP_er 536870911 false m.rngs m.nams l
    have h1 : m.bare.rngs = m.rngs.map Sp.bare := by rw [Ms.bare_eq]
    have h2 : m.bare.nams = m.nams.map Tx.bare := by rw [Ms.bare_eq]
    rw [h1, h2]
    refine Pz.er_and h fun r l => ?_
    rw [← Pz.er_ok, Ms.bare_eq, Ms.bare_eq]
  split
  · exact roomP_er (addF_er m (typedP_er _ _ _))
  split
  · exact roomP_er (addF_er m (typedP_er _ _ _))
  split
  · exact roomP_er (addF_er m (mapP_er _))
  split
  · exact refuse_er l
  · exact roomP_er (addF_er m (typedP_er _ _ _))
theorem msP_er {dn : List Wd → Bool} (hd : ∀ l, dn (erL l) = dn l) : ∀ (n deep : Nat) (l : List Wd), msP dn n deep (erL l) = (msP dn n deep l).er Ms.bare
  | 0, deep, l => rfl
  | n + 1, deep, l => by
    rw [msP, msP, erL_tail, hd, hdp_er]
    split
    · rfl
    · exact Pz.er_and (ofP_er 1 l.tail) fun w l => blkP_er (msS_er (msP_er hd n (deep + 1))) ⟨w.t, w.p, [], [], [], [], [], []⟩ l
theorem rpcP_er (l : List Wd) : rpcP (erL l) = (rpcP l).er Rp.bare := by
  unfold rpcP
  refine Pz.er_and (ofP_er 1 l) fun w l => Pz.er_and (expP_er _ l) fun _ l1 => Pz.er_and (nameP_er l1) fun inn l => Pz.er_and (expP_er _ l) fun _ l2 => Pz.er_and (nameP_er l2) fun out l => Pz.er_and (expP_er _ l) fun _ l => ?_
  refine Pz.er_and (g := id) ?_ fun _ l => ?_
  · rw [sayW_er, erL_tail]
    split
    · exact expP_er _ l.tail
    · exact expP_er _ l
  · rw [hdp_er, hdp_er]; rfl
theorem svS_er (x : Sv) (l : List Wd) : svS x.bare (erL l) = (svS x l).er Sv.bare := by
  unfold svS
  rw [sayW_er, erL_tail, show x.bare.rpcs.length = x.rpcs.length from List.length_map ..]
  split
  · rfl
  split
  · refine roomP_er (Pz.er_and (rpcP_er l.tail) fun r l => ?_)
    rw [← Pz.er_ok]
    unfold Sv.bare
    simp only [List.map_append, List.map_cons, List.map_nil]
  · exact refuse_er l
theorem svP_er (l : List Wd) : svP (erL l) = (svP l).er Sv.bare := by
  unfold svP
  rw [erL_tail]
  exact Pz.er_and (ofP_er 1 l.tail) fun w l => blkP_er svS_er ⟨w.t, w.p, []⟩ l
theorem impP_er (l : List Wd) : impP (erL l) = (impP l).er Im.bare := by
  unfold impP
  rw [erL_tail, sayW_er, erL_tail]
  refine Pz.er_and (g := Wd.er) ?_ fun w l2 => Pz.er_and (expP_er _ l2) fun _ l2 => rfl
  split
  · exact litP_er _ _
  · exact litP_er _ _
theorem fiS_er {dn : List Wd → Bool} (hd : ∀ l, dn (erL l) = dn l) (x : Tr) (l : List Wd) : fiS dn x.bare (erL l) = (fiS dn x l).er Tr.bare := by
  unfold fiS
  rw [sayW_er, erL_tail, hdp_er, erL_len, show x.bare.imps.length = x.imps.length from List.length_map .., show x.bare.msgs.length = x.msgs.length from List.length_map .., show x.bare.enums.length = x.enums.length from List.length_map .., show x.bare.svcs.length = x.svcs.length from List.length_map ..]
  split
  · rfl
  split
  · rw [show x.bare.pkg = x.pkg from rfl]
    split
    · exact refuse_er l
    · exact Pz.er_and (fullP_er _ _ l.tail) fun s l => Pz.er_and (expP_er _ l) fun _ l => rfl
  split
  · refine roomP_er (Pz.er_and (impP_er l) fun y l => ?_)
    rw [← Pz.er_ok]
    unfold Tr.bare
    simp only [List.map_append, List.map_cons, List.map_nil]
  split
  · refine roomP_er (Pz.er_and (msP_er hd _ _ l) fun y l => ?_)
    rw [← Pz.er_ok]
    unfold Tr.bare
    simp only [List.map_append, List.map_cons, List.map_nil]
  split
  · refine roomP_er (Pz.er_and (enP_er l) fun y l => ?_)
    rw [← Pz.er_ok]
    unfold Tr.bare
    simp only [List.map_append, List.map_cons, List.map_nil]
  split
  · refine roomP_er (Pz.er_and (svP_er l) fun y l => ?_)
    rw [← Pz.er_ok]
    unfold Tr.bare
    simp only [List.map_append, List.map_cons, List.map_nil]
  · exact refuse_er l
theorem fisF_er {dn : List Wd → Bool} (hd : ∀ l, dn (erL l) = dn l) : ∀ (n : Nat) (x : Tr) (l : List Wd), fisF dn n x.bare (erL l) = (fisF dn n x l).er Tr.bare
  | 0, x, l => rfl
  | n + 1, x, l => by
    rw [fisF, fisF, hdk_er]
    split
    · rfl
    · exact Pz.er_and (fiS_er hd x l) fun x l => fisF_er hd n x l
theorem fileP_er {dn : List Wd → Bool} (hd : ∀ l, dn (erL l) = dn l) (l : List Wd) : fileP dn (erL l) = (fileP dn l).er Tr.bare := by
  unfold fileP
  refine Pz.er_and (expP_er _ l) fun _ l => Pz.er_and (litP_er _ l) fun _ l => Pz.er_and (expP_er _ l) fun _ l => ?_
  rw [erL_len]
  exact fisF_er hd _ ⟨kNone, [], [], [], []⟩ l
end
section
open Go.RowKit
set_option linter.unusedVariables false
set_option linter.unusedSimpArgs false

abbrev Sm (s : ByteArray) : Prop := s.size ≤ 65536
structure Ls {α : Type} (P : α → Prop) (l : List α) : Prop where
  len : l.length ≤ 128
  all : ∀ x ∈ l, P x
theorem Ls.nil {α : Type} {P : α → Prop} : Ls P [] := ⟨by simp, fun x hx => by cases hx⟩
theorem Ls.snoc {α : Type} {P : α → Prop} {l : List α} {x : α} (h : Ls P l) (hl : l.length < 128) (hx : P x) : Ls P (l ++ [x]) := ⟨by simp; omega, fun y hy => by
  rcases List.mem_append.1 hy with e | e
  · exact h.all y e
  · rw [List.mem_singleton.1 e]; exact hx⟩
def Im.Few (x : Im) : Prop := Sm x.path
def Tx.Few (x : Tx) : Prop := Sm x.s
def Sp.Few (x : Sp) : Prop := True
def Fd.Few (x : Fd) : Prop := Sm x.name ∧ Sm x.typ ∧ Sm x.key ∧ Sm x.json
def Vl.Few (x : Vl) : Prop := Sm x.name
def Rp.Few (x : Rp) : Prop := Sm x.name ∧ Sm x.inn ∧ Sm x.out
structure En.Few (x : En) : Prop where
  name : Sm x.name
  vals : Ls Vl.Few x.vals
  rngs : Ls Sp.Few x.rngs
  nams : Ls Tx.Few x.nams
structure Sv.Few (x : Sv) : Prop where
  name : Sm x.name
  rpcs : Ls Rp.Few x.rpcs
mutual
def Ms.Few : Ms → Prop
  | ⟨name, _, flds, onos, msgs, enums, rngs, nams⟩ => Sm name ∧ Ls Fd.Few flds ∧ Ls Tx.Few onos ∧ msgs.length ≤ 128 ∧ fewL msgs ∧ Ls En.Few enums ∧ Ls Sp.Few rngs ∧ Ls Tx.Few nams
def fewL : List Ms → Prop
  | [] => True
  | m :: l => Ms.Few m ∧ fewL l
end
theorem fewL_iff : ∀ l : List Ms, fewL l ↔ ∀ x ∈ l, Ms.Few x
  | [] => by simp [fewL]
  | m :: l => by rw [fewL, fewL_iff l]; simp
structure Ms.Fw (x : Ms) : Prop where
  name : Sm x.name
  flds : Ls Fd.Few x.flds
  onos : Ls Tx.Few x.onos
  msgs : Ls Ms.Few x.msgs
  enums : Ls En.Few x.enums
  rngs : Ls Sp.Few x.rngs
  nams : Ls Tx.Few x.nams
theorem Ms.few_iff (x : Ms) : x.Few ↔ x.Fw := by
  cases x
  rw [Ms.Few, fewL_iff]
  exact ⟨fun ⟨a, b, c, d, e, f, g, h⟩ => ⟨a, b, c, ⟨d, e⟩, f, g, h⟩, fun ⟨a, b, c, d, f, g, h⟩ => ⟨a, b, c, d.len, d.all, f, g, h⟩⟩
structure Tr.Few (x : Tr) : Prop where
  pkg : Sm x.pkg
  imps : Ls Im.Few x.imps
  msgs : Ls Ms.Few x.msgs
  enums : Ls En.Few x.enums
  svcs : Ls Sv.Few x.svcs

/-- Words that are small. -/
def Wz (l : List Wd) : Prop := ∀ w ∈ l, Sm w.t
theorem Wz.tl {l : List Wd} (h : Wz l) : Wz l.tail := fun w hw => h w (List.mem_of_mem_tail hw)
theorem Wz.hd {l : List Wd} (h : Wz l) : Sm (hdW l).t := by
  cases l with
  | nil => exact Nat.zero_le _
  | cons x l => exact h x (by simp)
def Sz {α : Type} (P : α → Prop) : Pz α → Prop
  | .no _ _ => True
  | .ok a l => Wz l ∧ P a
theorem Sz.and {α β : Type} {P : α → Prop} {Q : β → Prop} {r : Pz α} {f : α → List Wd → Pz β} (h : Sz P r) (hf : ∀ a l, Wz l → P a → Sz Q (f a l)) : Sz Q (r.and f) := by
  cases r with
  | no p c => exact trivial
  | ok a l => exact hf a l h.1 h.2
theorem Sz.mono {α : Type} {P Q : α → Prop} {r : Pz α} (h : Sz P r) (hP : ∀ a, P a → Q a) : Sz Q r := by
  cases r with
  | no p c => exact trivial
  | ok a l => exact ⟨h.1, hP a h.2⟩
abbrev Tt {α : Type} : α → Prop := fun _ => True
theorem sz_room {α : Type} {P : α → Prop} {n m : Nat} {l : List Wd} {r : Pz α} (h : n < m → Sz P r) : Sz P (roomP n m l r) := by
  unfold roomP
  split
  · exact trivial
  · exact h (by omega)
theorem expP_sz : ∀ (ss : List ByteArray) {l : List Wd}, Wz l → Sz Tt (expP ss l)
  | [], _, h => ⟨h, trivial⟩
  | s :: r, l, h => by
    rw [expP]
    split
    · exact expP_sz r h.tl
    · exact trivial
theorem ofP_sz (k : Nat) {l : List Wd} (h : Wz l) : Sz (fun w => Sm w.t) (ofP k l) := by
  unfold ofP
  split
  · exact ⟨h.tl, h.hd⟩
  · exact trivial
theorem litP_sz (f : ByteArray → Bool) {l : List Wd} (h : Wz l) : Sz (fun w => Sm w.t) (litP f l) := by
  unfold litP
  split
  · exact ofP_sz 3 h
  · exact trivial
theorem numP_sz (b : Bool) {l : List Wd} (h : Wz l) : Sz Tt (numP b l) := by
  unfold numP
  split
  · exact (ofP_sz 2 h.tl).and fun w l hl _ => ⟨hl, trivial⟩
  · exact (ofP_sz 2 h).and fun w l hl _ => ⟨hl, trivial⟩
theorem dotsF_sz : ∀ (n : Nat) (b : ByteArray) {l : List Wd}, Wz l → Sz Tt (dotsF n b l)
  | 0, b, l, h => trivial
  | n + 1, b, l, h => by
    rw [dotsF]
    split
    · exact (ofP_sz 1 h.tl).and fun w l hl _ => dotsF_sz n _ hl
    · exact ⟨h, trivial⟩
theorem fullP_sz (s : ByteArray) (a : Nat) {l : List Wd} (h : Wz l) : Sz Sm (fullP s a l) := by
  unfold fullP
  refine (ofP_sz 1 h).and fun w l hl _ => (dotsF_sz _ _ hl).and fun b l hl _ => ?_
  split
  · exact trivial
  · exact ⟨hl, by show b.size ≤ 65536; omega⟩
theorem nameP_sz {l : List Wd} (h : Wz l) : Sz Sm (nameP l) := by
  unfold nameP
  split
  · exact fullP_sz _ _ h.tl
  · exact fullP_sz _ _ h
theorem blkF_sz {σ : Type} {P : σ → Prop} {step : σ → List Wd → Pz σ} (hs : ∀ x l, Wz l → P x → Sz P (step x l)) : ∀ (n : Nat) (x : σ) {l : List Wd}, Wz l → P x → Sz P (blkF step n x l)
  | 0, x, l, h, hx => trivial
  | n + 1, x, l, h, hx => by
    rw [blkF]
    split
    · exact ⟨h.tl, hx⟩
    · exact (hs x l h hx).and fun x l hl hx => blkF_sz hs n x hl hx
theorem blkP_sz {σ : Type} {P : σ → Prop} {step : σ → List Wd → Pz σ} (hs : ∀ x l, Wz l → P x → Sz P (step x l)) (x : σ) {l : List Wd} (h : Wz l) (hx : P x) : Sz P (blkP step x l) := by
  unfold blkP
  exact (expP_sz _ h).and fun _ l hl _ => blkF_sz hs _ x hl hx
theorem spanP_sz (max : Int) (b : Bool) {l : List Wd} (h : Wz l) : Sz Sp.Few (spanP max b l) := by
  unfold spanP
  refine (numP_sz b h).and fun lo l2 h2 _ => ?_
  split
  · split
    · split
      · exact trivial
      · exact ⟨h2.tl.tl, trivial⟩
    · refine (numP_sz b h2.tl).and fun hi l3 h3 _ => ?_
      split
      · exact trivial
      · exact ⟨h3, trivial⟩
  · exact ⟨h2, trivial⟩
theorem rngsF_sz (max : Int) (b : Bool) : ∀ (n : Nat) (a : List Sp) {l : List Wd}, Wz l → Ls Sp.Few a → Sz (Ls Sp.Few) (rngsF max b n a l)
  | 0, a, l, h, ha => trivial
  | n + 1, a, l, h, ha => by
    rw [rngsF]
    refine sz_room fun hn => (spanP_sz max b h).and fun x l hl hx => ?_
    split
    · exact rngsF_sz max b n _ hl.tl (ha.snoc (by omega) hx)
    · exact ⟨hl, ha.snoc (by omega) hx⟩
theorem namsF_sz : ∀ (n : Nat) (a : List Tx) {l : List Wd}, Wz l → Ls Tx.Few a → Sz (Ls Tx.Few) (namsF n a l)
  | 0, a, l, h, ha => trivial
  | n + 1, a, l, h, ha => by
    rw [namsF]
    refine sz_room fun hn => (litP_sz _ h).and fun x l hl hx => ?_
    split
    · exact namsF_sz n _ hl.tl (ha.snoc (by omega) hx)
    · exact ⟨hl, ha.snoc (by omega) hx⟩
theorem resP_sz (max : Int) (b : Bool) {r : List Sp} {t : List Tx} {l : List Wd} (h : Wz l) (hr : Ls Sp.Few r) (ht : Ls Tx.Few t) : Sz (fun q => Ls Sp.Few q.1 ∧ Ls Tx.Few q.2) (resP max b r t l) := by
  unfold resP
  split
  · exact (namsF_sz _ t h.tl ht).and fun t l hl ht => (expP_sz _ hl).and fun _ l hl _ => ⟨hl, hr, ht⟩
  · exact (rngsF_sz max b _ r h.tl hr).and fun r l hl hr => (expP_sz _ hl).and fun _ l hl _ => ⟨hl, hr, ht⟩
theorem valP_sz {l : List Wd} (h : Wz l) : Sz Vl.Few (valP l) := by
  unfold valP
  exact (ofP_sz 1 h).and fun w l hl hw => (expP_sz _ hl).and fun _ l hl _ => (numP_sz true hl).and fun n l hl _ => (expP_sz _ hl).and fun _ l hl _ => ⟨hl, hw⟩
theorem enS_sz (x : En) (l : List Wd) (h : Wz l) (hx : x.Few) : Sz En.Few (enS x l) := by
  unfold enS
  split
  · exact ⟨h.tl, hx⟩
  split
  · exact (resP_sz _ _ h hx.rngs hx.nams).and fun r l hl hr => ⟨hl, hx.name, hx.vals, hr.1, hr.2⟩
  split
  · exact trivial
  · exact sz_room fun hn => (valP_sz h).and fun v l hl hv => ⟨hl, hx.name, hx.vals.snoc (by omega) hv, hx.rngs, hx.nams⟩
theorem enP_sz {l : List Wd} (h : Wz l) : Sz En.Few (enP l) := by
  unfold enP
  exact (ofP_sz 1 h.tl).and fun w l hl hw => blkP_sz enS_sz _ hl ⟨hw, Ls.nil, Ls.nil, Ls.nil⟩
theorem namedP_sz {f : Fd} {l : List Wd} (h : Wz l) (hf : f.Few) : Sz Fd.Few (namedP f l) := by
  unfold namedP
  refine (ofP_sz 1 h).and fun w l hl hw => (expP_sz _ hl).and fun _ l hl _ => (ofP_sz 2 hl).and fun n l hl _ => ?_
  refine Sz.and (P := Sm) ?_ fun j l hl hj => (expP_sz _ hl).and fun _ l hl _ => ⟨hl, hw, hf.2.1, hf.2.2.1, hj⟩
  split
  · exact (expP_sz _ hl.tl).and fun _ l hl _ => (ofP_sz 3 hl).and fun j l hl hj => (expP_sz _ hl).and fun _ l hl _ => ⟨hl, hj⟩
  · exact ⟨hl, hf.2.2.2⟩
theorem sm_none : Sm kNone := Nat.zero_le _
theorem typedP_sz (c o : Int) {l : List Wd} (h : Wz l) : Sz Fd.Few (typedP c o l) := by
  unfold typedP
  exact (nameP_sz h).and fun s l2 hl hs => namedP_sz hl ⟨sm_none, hs, sm_none, sm_none⟩
theorem mapP_sz {l : List Wd} (h : Wz l) : Sz Fd.Few (mapP l) := by
  unfold mapP
  exact (expP_sz _ h).and fun _ l1 hl _ => (nameP_sz hl).and fun key l hl hk => (expP_sz _ hl).and fun _ l hl _ => (nameP_sz hl).and fun s l hl hs => (expP_sz _ hl).and fun _ l hl _ => namedP_sz hl ⟨sm_none, hs, hk, sm_none⟩
theorem addF_sz {m : Ms} {r : Pz Fd} (h : Sz Fd.Few r) (hm : m.Fw) (hn : m.flds.length < 64) : Sz Ms.Fw (addF m r) := by
  unfold addF
  exact h.and fun f l hl hf => ⟨hl, hm.name, hm.flds.snoc (by omega) hf, hm.onos, hm.msgs, hm.enums, hm.rngs, hm.nams⟩
theorem onS_sz (m : Ms) (l : List Wd) (h : Wz l) (hm : m.Fw) : Sz Ms.Fw (onS m l) := by
  unfold onS
  split
  · exact ⟨h.tl, hm⟩
  split
  · exact trivial
  · exact sz_room fun hn => addF_sz (typedP_sz _ _ h) hm hn
theorem onP_sz {m : Ms} {l : List Wd} (h : Wz l) (hm : m.Fw) : Sz Ms.Fw (onP m l) := by
  unfold onP
  exact sz_room fun hn => (ofP_sz 1 h.tl).and fun w l hl hw => blkP_sz onS_sz _ hl ⟨hm.name, hm.flds, hm.onos.snoc (by omega) hw, hm.msgs, hm.enums, hm.rngs, hm.nams⟩
theorem msS_sz {sub : List Wd → Pz Ms} (hsub : ∀ l, Wz l → Sz Ms.Fw (sub l)) (m : Ms) (l : List Wd) (h : Wz l) (hm : m.Fw) : Sz Ms.Fw (msS sub m l) := by
  unfold msS
  split
  · exact ⟨h.tl, hm⟩
  split
  · exact sz_room fun hn => (hsub l h).and fun x l hl hx => ⟨hl, hm.name, hm.flds, hm.onos, hm.msgs.snoc (by omega) ((Ms.few_iff x).2 hx), hm.enums, hm.rngs, hm.nams⟩
  split
  · exact sz_room fun hn => (enP_sz h).and fun x l hl hx => ⟨hl, hm.name, hm.flds, hm.onos, hm.msgs, hm.enums.snoc (by omega) hx, hm.rngs, hm.nams⟩
  split
  · exact onP_sz h hm
  split
  · exact (resP_sz _ _ h hm.rngs hm.nams).and fun r l hl hr => ⟨hl, hm.name, hm.flds, hm.onos, hm.msgs, hm.enums, hr.1, hr.2⟩
  split
  · exact sz_room fun hn => addF_sz (typedP_sz _ _ h.tl) hm hn
  split
  · exact sz_room fun hn => addF_sz (typedP_sz _ _ h.tl) hm hn
  split
  · exact sz_room fun hn => addF_sz (mapP_sz h.tl) hm hn
  split
  · exact trivial
  · exact sz_room fun hn => addF_sz (typedP_sz _ _ h) hm hn
theorem msP_sz (dn : List Wd → Bool) : ∀ (n deep : Nat) {l : List Wd}, Wz l → Sz Ms.Fw (msP dn n deep l)
  | 0, deep, l, h => trivial
  | n + 1, deep, l, h => by
    rw [msP]
    split
    · exact trivial
    · exact (ofP_sz 1 h.tl).and fun w l hl hw => blkP_sz (msS_sz fun l hl => msP_sz dn n (deep + 1) hl) _ hl ⟨hw, Ls.nil, Ls.nil, Ls.nil, Ls.nil, Ls.nil, Ls.nil⟩
theorem rpcP_sz {l : List Wd} (h : Wz l) : Sz Rp.Few (rpcP l) := by
  unfold rpcP
  refine (ofP_sz 1 h).and fun w l hl hw => (expP_sz _ hl).and fun _ l1 hl _ => (nameP_sz hl).and fun inn l hl hi => (expP_sz _ hl).and fun _ l2 hl _ => (nameP_sz hl).and fun out l hl ho => (expP_sz _ hl).and fun _ l hl _ => ?_
  refine Sz.and (P := Tt) ?_ fun _ l hl _ => ⟨hl, hw, hi, ho⟩
  split
  · exact expP_sz _ hl.tl
  · exact expP_sz _ hl
theorem svS_sz (x : Sv) (l : List Wd) (h : Wz l) (hx : x.Few) : Sz Sv.Few (svS x l) := by
  unfold svS
  split
  · exact ⟨h.tl, hx⟩
  split
  · exact sz_room fun hn => (rpcP_sz h.tl).and fun r l hl hr => ⟨hl, hx.name, hx.rpcs.snoc (by omega) hr⟩
  · exact trivial
theorem svP_sz {l : List Wd} (h : Wz l) : Sz Sv.Few (svP l) := by
  unfold svP
  exact (ofP_sz 1 h.tl).and fun w l hl hw => blkP_sz svS_sz _ hl ⟨hw, Ls.nil⟩
theorem impP_sz {l : List Wd} (h : Wz l) : Sz Im.Few (impP l) := by
  unfold impP
  refine Sz.and (P := fun w : Wd => Sm w.t) ?_ fun w l2 hl hw => (expP_sz _ hl).and fun _ l2 hl _ => ⟨hl, hw⟩
  split
  · exact litP_sz _ h.tl.tl
  · exact litP_sz _ h.tl
theorem fiS_sz (dn : List Wd → Bool) (x : Tr) (l : List Wd) (h : Wz l) (hx : x.Few) : Sz Tr.Few (fiS dn x l) := by
  unfold fiS
  split
  · exact ⟨h.tl, hx⟩
  split
  · split
    · exact trivial
    · exact (fullP_sz _ _ h.tl).and fun s l hl hs => (expP_sz _ hl).and fun _ l hl _ => ⟨hl, hs, hx.imps, hx.msgs, hx.enums, hx.svcs⟩
  split
  · exact sz_room fun hn => (impP_sz h).and fun y l hl hy => ⟨hl, hx.pkg, hx.imps.snoc (by omega) hy, hx.msgs, hx.enums, hx.svcs⟩
  split
  · exact sz_room fun hn => (msP_sz dn _ _ h).and fun y l hl hy => ⟨hl, hx.pkg, hx.imps, hx.msgs.snoc (by omega) ((Ms.few_iff y).2 hy), hx.enums, hx.svcs⟩
  split
  · exact sz_room fun hn => (enP_sz h).and fun y l hl hy => ⟨hl, hx.pkg, hx.imps, hx.msgs, hx.enums.snoc (by omega) hy, hx.svcs⟩
  split
  · exact sz_room fun hn => (svP_sz h).and fun y l hl hy => ⟨hl, hx.pkg, hx.imps, hx.msgs, hx.enums, hx.svcs.snoc (by omega) hy⟩
  · exact trivial
theorem fisF_sz (dn : List Wd → Bool) : ∀ (n : Nat) (x : Tr) {l : List Wd}, Wz l → x.Few → Sz Tr.Few (fisF dn n x l)
  | 0, x, l, h, hx => trivial
  | n + 1, x, l, h, hx => by
    rw [fisF]
    split
    · exact ⟨h, hx⟩
    · exact (fiS_sz dn x l h hx).and fun x l hl hx => fisF_sz dn n x hl hx
theorem fileP_sz (dn : List Wd → Bool) {l : List Wd} (h : Wz l) : Sz Tr.Few (fileP dn l) := by
  unfold fileP
  exact (expP_sz _ h).and fun _ l hl _ => (litP_sz _ hl).and fun _ l hl _ => (expP_sz _ hl).and fun _ l hl _ => fisF_sz dn _ _ hl ⟨sm_none, Ls.nil, Ls.nil, Ls.nil, Ls.nil⟩
end
section
open Go.RowKit
set_option linter.unusedVariables false
set_option linter.unusedSimpArgs false

theorem Mem.at_q {w : World} {B : Nat} {u v : Value} {F : List Nat} (h : Mem w B (.at_ u) v F) : v = u := by
  cases h with
  | at_ _ h => rfl
theorem Mem.sl_q {w : World} {B t k n : Nat} {cs : List Dv} {v : Value} {F : List Nat} (h : Mem w B (.sl t k n cs) v F) : ∃ A c, v = .slice A n c ∧ n ≤ maxLen := by
  cases h with
  | sl _ _ _ _ _ xs G h hc =>
    rcases h.2 with ⟨rfl, h0⟩ | ⟨g, cap, cur, rfl, h1, h2, h3, h4, h5⟩
    · exact ⟨none, 0, by rw [h0], by omega⟩
    · exact ⟨_, cap, rfl, by omega⟩
theorem MemL.plain_q {w : World} {B : Nat} : ∀ {vs xs : List Value} {F : List Nat}, MemL w B (vs.map Dv.at_) xs F → xs = vs
  | [], _, _, h => by cases h; rfl
  | v :: vs, _, _, h => by
    rw [List.map_cons] at h
    cases h with
    | cons d u F ds us G h0 h =>
    rw [h0.at_q, MemL.plain_q h]
theorem Mem.cells_q {w : World} {B t k n : Nat} {cs : List Dv} {v : Value} {F : List Nat} (h : Mem w B (.sl t k n cs) v F) (h0 : n ≠ 0) :
    ∃ g cap xs F', v = .slice (some ⟨g, 0, none⟩) n cap ∧ MemL w B cs xs F' ∧ ∀ i, i < xs.length → w.cell? ⟨g, i, none⟩ = xs[i]? := by
  cases h with
  | sl _ _ _ _ _ xs G h hc =>
    rcases h.2 with ⟨rfl, h0'⟩ | ⟨g, cap, cur, rfl, h1, h2, h3, h4, h5, h6⟩
    · exact absurd h0' h0
    · refine ⟨g, cap, xs, G, rfl, hc, fun i hi => ?_⟩
      have h8 := h.1
      rw [show w.cell? ⟨g, i, none⟩ = cur[i]? from Blk.cell h2 i, ← h6, List.getElem?_take_of_lt (by omega), Array.getElem?_toList]
theorem MemL.at_q {α : Type} {w : World} {B k : Nat} {f : α → List Dv} (hk : ∀ a, (f a).length = k) : ∀ {l : List α} {xs : List Value} {F : List Nat} (i : Nat) (hi : i < l.length), MemL w B (l.flatMap f) xs F → ∃ ys G, MemL w B (f l[i]) ys G ∧ ∀ j, j < k → xs[i * k + j]? = ys[j]?
  | x :: l, xs, F, 0, hi, h => by
    rw [List.flatMap_cons] at h
    obtain ⟨x1, x2, F1, F2, rfl, rfl, h1, h2⟩ := MemL.split h
    refine ⟨x1, F1, h1, fun j hj => ?_⟩
    rw [Nat.zero_mul, Nat.zero_add, List.getElem?_append_left (by rw [MemL.len h1, hk]; exact hj)]
  | x :: l, xs, F, i + 1, hi, h => by
    rw [List.flatMap_cons] at h
    obtain ⟨x1, x2, F1, F2, rfl, rfl, h1, h2⟩ := MemL.split h
    obtain ⟨ys, G, g1, g2⟩ := MemL.at_q hk i (by simpa using hi) h2
    refine ⟨ys, G, g1, fun j hj => ?_⟩
    have hl : x1.length = k := by rw [MemL.len h1, hk]
    rw [List.getElem?_append_right (by rw [hl, Nat.add_mul]; omega), hl, ← g2 j hj]
    congr 1
    rw [Nat.add_mul]; omega
theorem flat_q {α : Type} {k : Nat} {f : α → List Dv} (hk : ∀ a, (f a).length = k) : ∀ l : List α, (l.flatMap f).length = l.length * k
  | [] => by simp
  | x :: l => by rw [List.flatMap_cons, List.length_append, flat_q hk l, hk, List.length_cons, Nat.add_mul]; omega
/-- An element of a row. -/
theorem row_at {α : Type} {w : World} {B t k c : Nat} {f : α → List Dv} {l : List α} {A : Option Addr} {F : List Nat} (hk : ∀ a, (f a).length = k) (h : Mem w B (lsD t k f l) (.slice A l.length c) F) {i : Nat} (hi : i < l.length) :
    ∃ g ys G, A = some ⟨g, 0, none⟩ ∧ MemL w B (f l[i]) ys G ∧ ∀ j, j < k → w.cell? ⟨g, i * k + j, none⟩ = ys[j]? := by
  obtain ⟨g, cap, xs, F', e, hml, hc⟩ := h.cells_q (by omega)
  injection e with e1 e2 e3
  obtain ⟨ys, G, h1, h2⟩ := MemL.at_q hk i hi hml
  have hl : xs.length = l.length * k := by rw [MemL.len hml]; exact flat_q hk l
  refine ⟨g, ys, G, e1, h1, fun j hj => ?_⟩
  have : (i + 1) * k ≤ l.length * k := Nat.mul_le_mul_right _ hi
  rw [Nat.add_mul] at this
  rw [hc _ (by omega), h2 j hj]
def eqQ {α : Type} (f : α → α → Bool) : List α → List α → Bool
  | [], [] => true
  | a :: l, b :: m => f a b && eqQ f l m
  | _, _ => false
theorem eqQ_len {α : Type} (f : α → α → Bool) : ∀ {l m : List α}, l.length ≠ m.length → eqQ f l m = false
  | [], [], h => absurd rfl h
  | [], _ :: _, _ => rfl
  | _ :: _, [], _ => rfl
  | a :: l, b :: m, h => by rw [eqQ, eqQ_len f (l := l) (m := m) (by simpa using h), Bool.and_false]
theorem eqQ_step {α : Type} (f : α → α → Bool) {l m : List α} {i : Nat} (hl : i < l.length) (hm : i < m.length) : eqQ f (l.drop i) (m.drop i) = (f l[i] m[i] && eqQ f (l.drop (i + 1)) (m.drop (i + 1))) := by
  rw [List.drop_eq_getElem_cons hl, List.drop_eq_getElem_cons hm, eqQ]
theorem eqQ_end {α : Type} (f : α → α → Bool) {l m : List α} {i : Nat} (hl : l.length ≤ i) (hm : m.length ≤ i) : eqQ f (l.drop i) (m.drop i) = true := by
  rw [List.drop_eq_nil_of_le hl, List.drop_eq_nil_of_le hm, eqQ]
theorem eqQ_map {α γ : Type} {f : α → α → Bool} {g : α → γ} (h : ∀ x y, f x y = true ↔ g x = g y) : ∀ {l m : List α}, eqQ f l m = true ↔ l.map g = m.map g
  | [], [] => by simp [eqQ]
  | [], _ :: _ => by simp [eqQ]
  | _ :: _, [] => by simp [eqQ]
  | a :: l, b :: m => by
    rw [eqQ, Bool.and_eq_true, h, eqQ_map h, List.map_cons, List.map_cons]
    exact ⟨fun ⟨a, b⟩ => by rw [a, b], fun e => by injection e with e1 e2; exact ⟨e1, e2⟩⟩
/-! What is the same, but for places. -/
def Im.eqB (x y : Im) : Bool := decide (x.path = y.path) && decide (x.pub = y.pub)
def Tx.eqB (x y : Tx) : Bool := decide (x.s = y.s)
def Sp.eqB (x y : Sp) : Bool := decide (x.lo = y.lo) && decide (x.hi = y.hi)
def Fd.eqB (x y : Fd) : Bool := decide (x.name = y.name) && decide (x.typ = y.typ) && decide (x.key = y.key) && decide (x.json = y.json) && decide (x.card = y.card) && decide (x.num = y.num) && decide (x.oneof = y.oneof)
def Vl.eqB (x y : Vl) : Bool := decide (x.name = y.name) && decide (x.num = y.num)
def Rp.eqB (x y : Rp) : Bool := decide (x.name = y.name) && decide (x.inn = y.inn) && decide (x.out = y.out)
def En.eqB (x y : En) : Bool := decide (x.name = y.name) && eqQ Vl.eqB x.vals y.vals && eqQ Sp.eqB x.rngs y.rngs && eqQ Tx.eqB x.nams y.nams
def Sv.eqB (x y : Sv) : Bool := decide (x.name = y.name) && eqQ Rp.eqB x.rpcs y.rpcs
open Classical in
noncomputable def Ms.eqB (x y : Ms) : Bool := decide (x.bare = y.bare)
noncomputable def Tr.eqB (x y : Tr) : Bool := decide (x.pkg = y.pkg) && eqQ Im.eqB x.imps y.imps && eqQ Ms.eqB x.msgs y.msgs && eqQ En.eqB x.enums y.enums && eqQ Sv.eqB x.svcs y.svcs
theorem Im.eqB_iff (x y : Im) : x.eqB y = true ↔ x.bare = y.bare := by simp [Im.eqB, Im.bare]
theorem Tx.eqB_iff (x y : Tx) : x.eqB y = true ↔ x.bare = y.bare := by simp [Tx.eqB, Tx.bare]
theorem Sp.eqB_iff (x y : Sp) : x.eqB y = true ↔ x.bare = y.bare := by simp [Sp.eqB, Sp.bare]
theorem Fd.eqB_iff (x y : Fd) : x.eqB y = true ↔ x.bare = y.bare := by simp [Fd.eqB, Fd.bare, and_assoc]
theorem Vl.eqB_iff (x y : Vl) : x.eqB y = true ↔ x.bare = y.bare := by simp [Vl.eqB, Vl.bare]
theorem Rp.eqB_iff (x y : Rp) : x.eqB y = true ↔ x.bare = y.bare := by simp [Rp.eqB, Rp.bare, and_assoc]
theorem En.eqB_iff (x y : En) : x.eqB y = true ↔ x.bare = y.bare := by simp [En.eqB, En.bare, and_assoc, eqQ_map Vl.eqB_iff, eqQ_map Sp.eqB_iff, eqQ_map Tx.eqB_iff]
theorem Sv.eqB_iff (x y : Sv) : x.eqB y = true ↔ x.bare = y.bare := by simp [Sv.eqB, Sv.bare, eqQ_map Rp.eqB_iff]
theorem Ms.eqB_iff (x y : Ms) : x.eqB y = true ↔ x.bare = y.bare := by simp [Ms.eqB]
theorem Ms.eqB_parts (x y : Ms) : x.eqB y = (decide (x.name = y.name) && eqQ Fd.eqB x.flds y.flds && eqQ Tx.eqB x.onos y.onos && eqQ Ms.eqB x.msgs y.msgs && eqQ En.eqB x.enums y.enums && eqQ Sp.eqB x.rngs y.rngs && eqQ Tx.eqB x.nams y.nams) := by
  rw [Bool.eq_iff_iff, Ms.eqB_iff, Ms.bare_eq, Ms.bare_eq]
  simp [and_assoc, eqQ_map Fd.eqB_iff, eqQ_map Tx.eqB_iff, eqQ_map Ms.eqB_iff, eqQ_map En.eqB_iff, eqQ_map Sp.eqB_iff]
theorem Tr.eqB_iff (x y : Tr) : x.eqB y = true ↔ x.bare = y.bare := by simp [Tr.eqB, Tr.bare, and_assoc, eqQ_map Im.eqB_iff, eqQ_map Ms.eqB_iff, eqQ_map En.eqB_iff, eqQ_map Sv.eqB_iff]
end
end Go.Proofs.YthmdaejlopjjoaaGreatDoor
