/-
  Texts of this proof joined into one file: CnSt, CnAll, CnBytes, CnWritten, ShaSha, CnSum, CnTwo, CnClone, RefLess, RefPtLess. What each holds, and under which conditions, its own first sentence tells.
-/
import Derived.Shelf.SlMaps.Clone
import Derived.Test.YtlmfchcafhidoaaDoorMg07
import Derived.Test.YtlmfchcafhidoaaDoorMg05
import Derived.Test.YtlmfchcafhidoaaDoorMg01
import Derived.Test.YtlmfchcafhidoaaDoorMg06
import Derived.Test.YtlmfchcafhidoaaDoorMg04
import Derived.Test.YtlmfchcafhidoaaDoorMg03
/-
  What a set becomes as it is told things: added one by one; a map's block above. No conditions.
-/
namespace Go.Proofs.YtlmfchcafhidoaaDoor.Sha
open Go Go.RowKit
def topM (n : Nat) : Nat := n % 2100000000000001
theorem setlen_k (w : World) (a : Nat) (m : Option Nat) (l : List TSp) (h : SetAt w a m l) (k : Int) (hk : k = (l.length : Int)) :
    Calls Tryd.prog 9 #[.pointer (some ⟨a, 0, none⟩)] w fun e w' => e = .returned (.int .i64 k) ∧ Below w.heap.size w w' := by
  subst hk
  exact (setlen_any w a m l h).mono fun _ _ ⟨h1, h2⟩ => ⟨h1, by rw [← h2]; exact Below.refl _ _⟩
theorem topM_le (n : Nat) : topM n ≤ 2100000000000000 := by unfold topM; omega
/-- A coin with its value brought into its bound. -/
def mnT (c : TMn) : TMn := ⟨topM c.val, c.lock, c.height, c.base⟩
def mnF (c : TMn) : TMn := ⟨2100000000000001, c.lock, c.height, c.base⟩
theorem mnT_ok {c : TMn} (h : MnOk c) : MnOk (mnT c) := ⟨h.1, Nat.le_trans (topM_le _) (by omega), h.2.2⟩
theorem mnF_ok {c : TMn} (h : MnOk c) : MnOk (mnF c) := ⟨h.1, by show 2100000000000001 ≤ _; omega, h.2.2⟩
def ptN (p : TPt) : TPt := ⟨p.h, (p.n + 1) % 4294967296⟩
theorem ptN_ok {p : TPt} (h : PtOk p) : PtOk (ptN p) := ⟨h.1, by show (p.n + 1) % 4294967296 ≤ _; omega⟩
theorem ptN_ne {p : TPt} (h : PtOk p) : p ≠ ptN p := fun e => by
  have h1 := congrArg TPt.n e
  have h2 := h.2
  simp only [ptN] at h1
  omega
/-- A map's block is above this one. -/
def HiM (base : Nat) (m : Option Nat) : Prop := ∀ q, m = some q → base ≤ q
theorem HiM.add {base s : Nat} {m m' : Option Nat} (h : HiM base m) (hs : base ≤ s) (hm : m' = m ∨ ∃ b, m' = some b ∧ s ≤ b) : HiM base m' := by
  rcases hm with rfl | ⟨b, rfl, hb⟩
  · exact h
  · intro q e
    cases e
    exact Nat.le_trans hs hb
theorem Below.set {base : Nat} {w0 w w' : World} {a : Nat} {m : Option Nat} (h : Below base w0 w) (hk : Kps (fun j => j ≠ a ∧ m ≠ some j) w w') (ha : base ≤ a) (hm : HiM base m) (hb : base ≤ w.heap.size) : Below base w0 w' :=
  h.trans ⟨hk.os, hk.tape, hk.output, hk.size, fun k hlt => hk.block k (by omega) ⟨by omega, fun e => by have := hm k e; omega⟩⟩
theorem addR_fits {l : List TSp} {p : TPt} {k : TMn} (hv : k.val ≤ 2100000000000000) (hn : getC l p = none) : addR l p k = 0 := by
  unfold addR
  rw [if_neg (by omega), hn]
  rfl
theorem addL_fits {l : List TSp} {p : TPt} {k : TMn} (hv : k.val ≤ 2100000000000000) (hn : getC l p = none) : addL l p k = l ++ [⟨p, k⟩] := by
  unfold addL
  rw [if_pos (addR_fits hv hn)]
theorem addR_there {l : List TSp} {p : TPt} {k : TMn} (hv : k.val ≤ 2100000000000000) (hn : (getC l p).isSome = true) : addR l p k = 6 := by
  unfold addR
  rw [if_neg (by omega), if_pos hn]
theorem addR_great {l : List TSp} {p : TPt} {k : TMn} (hv : 2100000000000000 < k.val) : addR l p k = 5 := by
  unfold addR
  rw [if_pos hv]
theorem addL_not {l : List TSp} {p : TPt} {k : TMn} {c : Nat} (h : addR l p k = c + 1) : addL l p k = l := by
  unfold addL
  rw [if_neg (by omega)]
theorem getC_one (p : TPt) (k : TMn) : getC [⟨p, k⟩] p = some k := by simp [getC]
theorem getC_other {p q : TPt} (k : TMn) (h : p ≠ q) : getC [⟨p, k⟩] q = none := by simp [getC, h]
/-- A coin's cells but for its value. -/
def mnR (c : TMn) : List Value := c.lock.map bV ++ [.int .i64 c.height, .bool c.base]
def addC (s : List TSp) (x : TSp) : List TSp := addL s x.at_ x.coin
/-- All added, one by one. -/
def addsC (l : List TSp) : List TSp := l.foldl addC []
theorem addsC_take {l : List TSp} {k : Nat} {x : TSp} (h : l[k]? = some x) : addsC (l.take (k + 1)) = addC (addsC (l.take k)) x := by
  have hk := (List.getElem?_eq_some_iff.1 h).1
  rw [List.take_succ_eq_append_getElem hk, (List.getElem?_eq_some_iff.1 h).2]
  simp [addsC, List.foldl_append]
theorem addL_zero {l : List TSp} {x : TSp} (h : addR l x.at_ x.coin = 0) : addL l x.at_ x.coin = l ++ [x] := by
  unfold addL
  rw [if_pos h]
theorem addL_succ {l : List TSp} {p : TPt} {k : TMn} {c : Nat} (h : addR l p k = c + 1) : addL l p k = l := addL_not h
theorem addL_len (l : List TSp) (p : TPt) (k : TMn) : (addL l p k).length ≤ l.length + 1 := by
  unfold addL
  split
  · simp
  · omega
theorem foldl_len (l : List TSp) : ∀ s, (l.foldl addC s).length ≤ s.length + l.length := by
  induction l with
  | nil => intro s; simp
  | cons x l ih =>
    intro s
    rw [List.foldl_cons]
    have h1 := ih (addC s x)
    have h2 := addL_len s x.at_ x.coin
    rw [List.length_cons]
    unfold addC at h1 ⊢
    omega
theorem addsC_length (l : List TSp) : (addsC l).length ≤ l.length := by
  have := foldl_len l []
  simpa [addsC] using this
theorem worthC_snoc (l : List TSp) (x : TSp) : worthC (l ++ [x]) = worthC l + x.coin.val := by simp [worthC]
theorem sorted_next {l : List TSp} {j : Nat} {x y : TSp} (h : SortedC l) (hx : l[j]? = some x) (hy : l[j + 1]? = some y) : lessPt x.at_.h x.at_.n y.at_.h y.at_.n = true := by
  obtain ⟨h1, h2⟩ := List.getElem?_eq_some_iff.1 hx
  obtain ⟨h3, h4⟩ := List.getElem?_eq_some_iff.1 hy
  have := (List.pairwise_iff_getElem.1 h) j (j + 1) h1 h3 (Nat.lt_succ_self _)
  rw [h2, h4] at this
  exact this
end Go.Proofs.YtlmfchcafhidoaaDoor.Sha

/-
  All coins of a set with their places, in the places' order: new memory; nothing that was there turns. Conditions: the set lies where the pointer says, at most 2^20 coins.
-/
namespace Go.Proofs.YtlmfchcafhidoaaDoor.Sha
open Go Go.RowKit
def ptZ : TPt := ⟨List.replicate 32 0, 0⟩
theorem built_sp (x : TSp) (hx : SpOk x) : Tryd.prog.built 45 [(0, .agg (ptC x.at_).toArray), (1, .agg (mnL x.coin).toArray)] = some (spL x).toArray := by
  have hz : ∀ parts, Tryd.prog.built 45 parts = Instr.fill ([(0, 33), (33, 35)].toArray[·]?) (ptC ptZ ++ mnL mnZ).toArray parts := fun parts => by kernel_rfl
  have l1 := ptC_length hx.1
  have l2 := mnL_length hx.2
  have l3 : (ptC ptZ).length = 33 := rfl
  have l4 : (mnL mnZ).length = 35 := rfl
  rw [hz, fill_part _ 0 0 (.agg (ptC x.at_).toArray) (ptC x.at_) _ _ rfl (by rw [l1]; rfl) (by rw [List.length_append]; omega), List.take_zero, List.nil_append, l1, Nat.zero_add,
    fill_part _ 1 33 (.agg (mnL x.coin).toArray) (mnL x.coin) _ _ rfl (by rw [l2]; rfl) (by rw [List.length_append, List.length_drop, List.length_append]; omega)]
  have e1 : (ptC x.at_ ++ (ptC ptZ ++ mnL mnZ).drop 33).take 33 = ptC x.at_ := by rw [List.take_append_of_le_length (by omega), List.take_of_length_le (by omega)]
  have e2 : (ptC x.at_ ++ (ptC ptZ ++ mnL mnZ).drop 33).drop (33 + (mnL x.coin).length) = [] := List.drop_eq_nil_of_le (by rw [List.length_append, List.length_drop, List.length_append]; omega)
  rw [e1, e2, List.append_nil]
  rfl
theorem iter_row {w : World} {m : Option Nat} {r k n base : Nat} {rest : List TSp} {T : TypeId} {v : Value} {xs : List Value} (h : IterAt w m r rest) (ho : w.ownsRow base T k v n xs) : v.ownBlock ≠ some r ∧ ∀ b, m = some b → v.ownBlock ≠ some b := by
  rcases ho.2 with ⟨rfl, _⟩ | ⟨g, cap, cur, rfl, _, hg, _⟩
  · exact ⟨fun e => (by cases e), fun b _ e => (by cases e)⟩
  · cases m with
    | none =>
      refine ⟨fun e => ?_, fun b e => (by cases e)⟩
      have e' : g = r := Option.some.inj e
      have h2 := h.2
      rw [← e', hg] at h2
      cases h2
    | some b =>
      obtain ⟨es, clock, since, seen, c0, hb, _, hr, _⟩ := h
      refine ⟨fun e => ?_, fun b' eb e => ?_⟩
      · have e' : g = r := Option.some.inj e
        rw [← e', hg] at hr
        cases hr
      · have e' : g = b' := Option.some.inj e
        have e2 : b = b' := Option.some.inj eb
        rw [e2, ← e', hg] at hb
        cases hb
theorem IterAt.grown {w w' : World} {m : Option Nat} {r : Nat} {q : Option Nat} {rest : List TSp} (h : IterAt w m r rest) (hg : w.grownBy w' q) (h1 : q ≠ some r) (h2 : ∀ b, m = some b → q ≠ some b) : IterAt w' m r rest :=
  h.kps (F := fun k => q ≠ some k) (Kps.grown hg fun k _ hk e => hk e.symm) (fun b hb => h2 b hb) h1
def AlInv (m : Option Nat) (r : Nat) (l : List TSp) (w : World) (vb : Value) (wr : World) : Prop :=
  ∃ (d rest : List TSp) (g cap : Nat), vb = .slice (some ⟨g, 0, none⟩) d.length cap ∧ IterAt wr m r rest ∧ (d ++ rest).Perm l ∧ RwOwn 68 45 w.heap.size wr vb (d.map spL) ∧ Below w.heap.size w wr
set_option maxHeartbeats 4000000 in
set_option maxRecDepth 100000 in
theorem setall_any (w : World) (a : Nat) (m : Option Nat) (l : List TSp) (h : SetAt w a m l) (hn : l.length ≤ 1048576) :
    Calls Tryd.prog 22 #[.pointer (some ⟨a, 0, none⟩)] w fun e w' => ∃ v l', e = .returned v ∧ l'.Perm l ∧ SortedC l' ∧ RwAt 68 w' v (l'.map spL) ∧ (∀ sp n cap, v = .slice (some sp) n cap → w.heap.size ≤ sp.block) ∧ Below w.heap.size w w' := by
  obtain ⟨i0, hi, hz0, hz1, hz2⟩ := info_parts info_spent
  have c0 := h.cell
  have HS := Lib.hid h
  have OK : Hid (∀ x ∈ l, SpOk x) := h.map.ok
  have AP : Hid (l.Pairwise (fun x y => x.at_ ≠ y.at_)) := h.map.apart
  obtain ⟨n, hnl⟩ : ∃ n, n = l.length := ⟨_, rfl⟩
  rw [← hnl] at hn
  have hq : ∀ ty, (Builtin.len_ #[30] ty #[.map m]).run Tryd.prog w = .ok (.int .i64 (n : Int)) w := fun ty => by rw [hnl]; exact map_len h.map ty
  have NL := Lib.hid hnl
  have ML : Hid (∀ b, m = some b → b < w.heap.size) := h.map.lt
  have AA : Hid (a < w.heap.size) := (Array.getElem?_eq_some_iff.1 h.box).1
  clear h hnl
  go_enter Tryd.func22, Tryd.ntmps22
  go_upto_region 2 with (at_make; refine wpList_make_own _ rfl _ _ 34 rfl w.heap.size 45 i0 (.agg (spL ⟨⟨List.replicate 32 0, 0⟩, mnZ⟩).toArray) 68 Tryd.underlying34 hi hz0 hz1 _ _ _ n rfl rfl rfl (by rw [hz2]; omega) (by unfold maxLen; omega) (Nat.le_refl _) ?_; intro w2 hown hgrow; have HO0 := Lib.hid hown; have HG0 := Lib.hid hgrow; clear hown hgrow; go_frame)
  have HB0 := Lib.hid ((Below.refl _ _).grown HG0.out (Nat.le_refl _) (fun k hk => by cases hk))
  have HST : Hid (RwOwn 68 45 w.heap.size w2 (.slice (some ⟨w.heap.size, 0, none⟩) 0 n) ([] : List (List Value))) := ⟨HO0.out, fun x hx => by simp at hx⟩
  have HS2 := Lib.hid (HS.out.below HB0.out)
  have c2 := HS2.out.cell
  clear HO0 HG0 c0 hq
  go_wp2_with (at_range; refine wpList_range_cn rfl (.tmp 15) rfl m l rfl HS2.out.map ?_; intro w3 q1 q2 q3; have IT := Lib.hid q1; have B3 := Lib.hid q2; clear q1 q2 q3)
  go_frame
  have HST3 := Lib.hid (HST.out.keep B3.out)
  have HB3 := Lib.hid (HB0.out.trans (B3.out.mono HB0.out.size))
  obtain ⟨r, hr⟩ : ∃ r, r = w2.heap.size := ⟨_, rfl⟩
  rw [← hr] at IT ⊢
  have HR : Hid (w.heap.size ≤ r) := by show _ ≤ _; rw [hr]; exact HB0.out.size
  have HM : Hid (m ≠ some r) := fun e => by have := ML.out _ e; have := HR.out; omega
  clear hr c2 HST HS2 B3 HB0
  go_loopw [3] (fun vb wr => AlInv m r l w vb wr) (fun _ wr => iterLeft m r wr)
  case atStart => exact ⟨[], l, _, _, rfl, IT.out, List.Perm.refl _, HST3.out, HB3.out⟩
  case round =>
    clear IT HST3 HB3
    obtain ⟨d, rest, g, cap, rfl, hit, hp, hown, hb⟩ := hrel
    have IT := Lib.hid hit
    have PM := Lib.hid hp
    have HO := Lib.hid hown
    have BB := Lib.hid hb
    obtain ⟨dn, hdn⟩ : ∃ dn, dn = d.length := ⟨_, rfl⟩
    rw [← hdn] at HO ⊢
    have DN := Lib.hid hdn
    have ITM := Lib.hid hit.left
    have DR : Hid (dn + rest.length = n) := by show _ = _; rw [hdn, NL.out, ← hp.length_eq, List.length_append]
    clear hit hp hown hb hdn
    go_wp2_with (at_next; refine wpList_next_cn rfl (.tmp 16) rfl m r rest rfl IT.out HM.out ?_ ?_)
    · intro he
      have E0 := Lib.hid he
      clear he
      have hpl : d.Perm l := by
        have h1 := PM.out
        rwa [E0.out, List.append_nil] at h1
      have HP := Lib.hid hpl
      have SO := Lib.hid (sort_any g cap w.heap.size 45 d (fun x hx => OK.out x (hpl.mem_iff.1 hx)) ((hpl.pairwise_iff (fun {x y} h => Ne.symm h)).2 AP.out) dn DN.out (by have := DR.out; omega) _ HO.out)
      have GG : Hid (w.heap.size ≤ g) := (HO.out.1.lt g rfl).1
      clear hpl hn
      go_wp2_with fail
      refine SO.out.mono ?_
      rintro e w5 ⟨rfl, l', p1, p2, p3, p4⟩
      have P1 := Lib.hid p1
      have P2 := Lib.hid p2
      have P3 := Lib.hid p3
      have B5 := Lib.hid (BB.out.grown p4 BB.out.size (fun k hk => by cases hk; exact GG.out))
      clear p1 p2 p3 p4 SO
      go_wp2_with fail
      go_ret
      exact ⟨_, l', rfl, P1.out.trans HP.out, P2.out, P3.out, fun sp n cap e => by cases e; exact GG.out, B5.out⟩
    · intro x l' w4 hp hx hi4 hg hsz hen
      have PX := Lib.hid hp
      have I4 := Lib.hid hi4
      have B4 := Lib.hid (BB.out.grown hg BB.out.size (fun k hk => by cases hk; exact HR.out))
      have HO4 : Hid (RwOwn 68 45 w.heap.size w4 (.slice (some ⟨g, 0, none⟩) dn cap) (d.map spL)) := HO.out.kept hg (.inr (iter_row IT.out HO.out.1).1)
      have PL : Hid ((ptC x.at_).length = 33) := ptC_length hx.1
      have ML' : Hid ((mnL x.coin).length = 35) := mnL_length hx.2
      have PS : Hid ((ptC x.at_).toArray.size = 33) := ptC_size hx.1
      have MS : Hid ((mnL x.coin).toArray.size = 35) := mnL_size hx.2
      have PO : Hid ((ptC x.at_).toArray.all (·.oneCell') = true) := ptC_all _
      have MO : Hid ((mnL x.coin).toArray.all (·.oneCell') = true) := mnL_all _
      have BT := Lib.hid (built_sp x hx)
      have LX : Hid ((spL x).length = 68) := spL_length hx
      have LO : Hid (∀ v ∈ spL x, v.oneCell' = true) := spL_one x
      obtain ⟨cp, hcp⟩ : ∃ cp, cp = ptC x.at_ := ⟨_, rfl⟩
      obtain ⟨cm, hcm⟩ : ∃ cm, cm = mnL x.coin := ⟨_, rfl⟩
      obtain ⟨sx, hsx⟩ : ∃ sx, sx = spL x := ⟨_, rfl⟩
      rw [← hcp] at hen PL PS PO BT ⊢
      rw [← hcm] at hen ML' MS MO BT ⊢
      rw [← hsx] at BT LX LO
      have SX := Lib.hid hsx
      have DLT : Hid (dn < n) := by
        have h1 := DR.out
        rw [PX.out.length_eq, List.length_cons] at h1
        show dn < n
        omega
      clear hp hx hi4 hg hsz hcp hcm hsx IT HO BB
      go_upto_region 5 with ((with_reducible show wpList _ _ _ _ _ _); first | (refine wpList_store_whole rfl 27 (.tmp 4) (.tmp 20) rfl w4.heap.size (ptC ptZ) cp 27 rfl rfl (by rw [PL.out]; rfl) (heap_alloc2_old w4 _ _) (by rw [PL.out]; kernel_rfl) PO.out ?_; intro w5 q1 q2; have P5 := Lib.hid q1; have M5 := Lib.hid (row_far (heap_alloc2_new w4 (.cells (ptC ptZ).toArray 27 (0, 0)) (.cells (mnL mnZ).toArray 39 (0, 0))) q2 (fun e => by have := Option.some.inj e; omega)); have B5 := Lib.hid ((((Below.refl w4.heap.size w4).alloc (Nat.le_refl _) (.cells (ptC ptZ).toArray 27 (0, 0))).alloc (by simp) (.cells (mnL mnZ).toArray 39 (0, 0))).grown q2 (by simp; omega) (fun k hk => by cases hk; exact Nat.le_refl _)); clear q1 q2; go_frame) | (refine wpList_store_whole rfl 39 (.tmp 5) (.tmp 21) rfl (w4.heap.size + 1) (mnL mnZ) cm 39 rfl rfl (by rw [ML'.out]; rfl) M5.out (by rw [ML'.out]; kernel_rfl) MO.out ?_; intro w6 q1 q2; have M6 := Lib.hid q1; have P6 := Lib.hid (row_far P5.out q2 (fun e => by have := Option.some.inj e; omega)); have B6 := Lib.hid (B5.out.grown q2 B5.out.size (fun k hk => by cases hk; exact Nat.le_succ _)); clear q1 q2; go_frame))
      clear hen P5 M5 B5
      have I6 := Lib.hid (I4.out.below B6.out)
      have HO6 := Lib.hid (HO4.out.keep B6.out)
      have C6 := Lib.hid (B4.out.trans (B6.out.mono B4.out.size))
      clear I4 HO4 B4 B6
      go_wp2_with ((with_reducible show wpList _ _ _ _ _ _); first | (refine wpList_load_row rfl 27 (.tmp 4) rfl w4.heap.size rfl 27 cp.toArray (0, 0) _ P6.out Tryd.underlying27 rfl (by rw [PS.out]; kernel_rfl) ?_; go_frame) | (refine wpList_load_row rfl 39 (.tmp 5) rfl (w4.heap.size + 1) rfl 39 cm.toArray (0, 0) _ M6.out Tryd.underlying39 rfl (by rw [MS.out]; kernel_rfl) ?_; go_frame) | (refine wpList_buildTo rfl 45 _ rfl _ rfl sx.toArray (by rw [← BT.out]; kernel_rfl) ?_; go_frame) | (refine wpList_slice_one rfl 34 45 (.tmp 25) rfl sx rfl Tryd.underlying34 i0 _ hi hz0 (by rw [hz1, LX.out]) (by rw [LX.out]; omega) (by rw [LX.out]; omega) ?_; have nf := heap_alloc_new w6 (.cells sx.toArray 45 (0, 0)); have bb := (Below.refl w6.heap.size w6).alloc (Nat.le_refl _) (.cells sx.toArray 45 (0, 0)); obtain ⟨gn, hgn⟩ : ∃ gn, gn = w6.heap.size := ⟨_, rfl⟩; generalize hw7 : World.alloc _ _ = w7; have e7 : w6.alloc (.cells sx.toArray 45 (0, 0)) = w7 := hw7; rw [e7] at nf bb; rw [← hgn] at nf ⊢; have NF := Lib.hid nf; have HO7 := Lib.hid (HO6.out.keep bb); have I7 := Lib.hid (I6.out.below bb); have C7 := Lib.hid (C6.out.trans (bb.mono C6.out.size)); clear nf bb hw7 e7 hgn; go_frame) | (at_builtin; refine wpList_append_own_at _ rfl _ _ 34 rfl w.heap.size 45 i0 (.agg (spL ⟨⟨List.replicate 32 0, 0⟩, mnZ⟩).toArray) 68 96 Tryd.underlying34 hi hz0 hz1 hz2 (by kernel_rfl) (by decide) (.slice (some ⟨g, 0, none⟩) dn cap) dn (d.map spL).flatten rfl (by have h := HO7.out.1; rw [List.length_map, ← DN.out] at h; exact h) ⟨gn, 0, none⟩ 1 1 sx rfl (by rw [LX.out]) (fun j u hj => by rw [Addr.add_mid]; exact range_of_box NF.out j u hj) LO.out (by have := DLT.out; unfold maxLen; omega) (by have := DLT.out; omega) C7.out.size ?_; intro v8 w8 q1 q2 _ q4; have HO8 : Hid (RwOwn 68 45 w.heap.size w8 v8 ((d.map spL) ++ [sx])) := RwOwn.push HO7.out.2 LX.out (by rw [List.length_map, ← DN.out]; exact q1); have I8 := Lib.hid (I7.out.grown q2 (iter_row I7.out HO7.out.1).1 (iter_row I7.out HO7.out.1).2); have C8 := Lib.hid (own_grown C7.out (Nat.le_refl _) C7.out.size HO7.out.1 q2); clear q1 q2 q4; go_frame))
      go_roundw
      case rel =>
        have h8 := HO8.out
        obtain ⟨g8, cap8, rfl, _, _⟩ : ∃ g cap, v8 = .slice (some ⟨g, 0, none⟩) (dn + 1) cap ∧ w.heap.size ≤ g ∧ dn + 1 ≤ cap := by
          rcases h8.1.2 with ⟨_, e⟩ | ⟨g', cap', cur, hv, hb, _, hc, _⟩
          · simp at e
          · rw [List.length_append, List.length_map, ← DN.out] at hv hc
            exact ⟨g', cap', hv, hb, hc⟩
        refine ⟨d ++ [x], l', g8, cap8, by rw [List.length_append, ← DN.out]; rfl, I8.out, ?_, ?_, C8.out⟩
        · rw [List.append_assoc]
          exact (PX.out.symm.append_left d).trans PM.out
        · rw [List.map_append, List.map_singleton, ← SX.out]
          exact h8
      case measure =>
        rw [I8.out.left]
        have := DR.out
        have h2 : iterLeft m r _ = rest.length := ITM.out
        rw [h2, PX.out.length_eq]
        exact Nat.lt_succ_self _
end Go.Proofs.YtlmfchcafhidoaaDoor.Sha

/-
  A coin's bytes, as a set's digest reads them: package coins writes them into new memory; nothing that was there turns. Conditions: a coin as the model has it.
-/
namespace Go.Proofs.YtlmfchcafhidoaaDoor.Sha
open Go Go.RowKit
/-- A height's 64 bits. -/
def hN (h : Int) : Nat := (h % 18446744073709551616).toNat
/-- A coin's bytes. -/
def spB (x : TSp) : List UInt8 := x.at_.h ++ leB x.at_.n 4 ++ leB x.coin.val 8 ++ x.coin.lock ++ leB (hN x.coin.height) 4 ++ [if x.coin.base then 1 else 0]
theorem spB_length {x : TSp} (hx : SpOk x) : (spB x).length = 81 := by simp [spB, leB_length, hx.1.1, hx.2.1]
theorem leB_congr : ∀ (k n m : Nat), n % 256 ^ k = m % 256 ^ k → leB n k = leB m k
  | 0, _, _, _ => rfl
  | k + 1, n, m, h => by
    have h1 : n % 256 ^ k = m % 256 ^ k := by
      have e1 : 256 ^ k ∣ 256 ^ (k + 1) := ⟨256, by rw [Nat.pow_succ]⟩
      rw [← Nat.mod_mod_of_dvd n e1, h, Nat.mod_mod_of_dvd m e1]
    have h2 : n / 256 ^ k % 256 = m / 256 ^ k % 256 := by
      rw [Nat.pow_succ] at h
      rw [← Nat.mod_mul_right_div_self, ← Nat.mod_mul_right_div_self, h]
    rw [leB, leB, leB_congr k n m h1]
    congr 2
    rw [← UInt8.toNat_inj, UInt8.toNat_ofNat', UInt8.toNat_ofNat']
    exact h2
set_option maxRecDepth 100000 in
theorem sclone_any (bs : List UInt8) (bb off n cap : Nat) (w : World) (hn : n = bs.length) (h0 : 0 < n) (hl : n ≤ 70368744177664) (hs : SrcB w (.slice (some ⟨bb, off, none⟩) n cap) bs) :
    Calls Tryd.prog 50 #[.slice (some ⟨bb, off, none⟩) n cap] w fun e w' => ∃ v', e = .returned v' ∧ OwnB w.heap.size w.heap.size w w' v' bs := by
  obtain ⟨i0, hi, hz0, hz1, hz2⟩ := info_parts info_u8
  have HO0 : Hid ((w.alloc (.cells #[] 5)).ownsRow w.heap.size 5 1 (.slice (some ⟨w.heap.size, 0, none⟩) 0 0) 0 []) := World.ownsRow_lit w #[] 0 (Nat.le_refl _) (by unfold maxLen; omega) rfl
  have B0 : Hid (Below w.heap.size w (w.alloc (.cells #[] 5))) := (Below.refl _ _).alloc (Nat.le_refl _) _
  have S0 := Lib.hid (hs.below B0.out)
  have HN := Lib.hid hn
  have hq : ∀ W, (binOp .eql 85 (.slice (some ⟨bb, off, none⟩) n cap) (.slice none 0 0)).run Tryd.prog W = .ok (.bool false) W := fun W => by kernel_rfl
  clear hs hn
  go_enter Tryd.func50, Tryd.ntmps50
  go_wp2_with (at_builtin; refine wpList_append_any _ rfl _ _ 85 rfl w.heap.size 5 i0 Tryd.underlying85 hi hz0 hz1 hz2 (.slice (some ⟨w.heap.size, 0, none⟩) 0 0) 0 _ rfl HO0.out (.slice (some ⟨bb, off, none⟩) n cap) bs rfl S0.out (by have := HN.out; omega) (by simp) ?_; intro v4 w4 ho4 hg4; have HO4 := Lib.hid ho4; have B4 := Lib.hid (own_grown B0.out (Nat.le_refl _) (by simp) HO0.out hg4); clear ho4 hg4; go_frame)
  go_ret
  refine ⟨_, rfl, ?_, B4.out, B4.out.size⟩
  have h := HO4.out
  rw [Nat.zero_add, List.nil_append] at h
  exact h
def LowestInv (n many base : Nat) (bs : List UInt8) (w : World) (vb vn vi : Value) (wr : World) : Prop :=
  ∃ (k q : Nat), k ≤ many ∧ vi = .int .i64 k ∧ vn = .int .u64 (q : Int) ∧ q = n / 256 ^ k ∧ OwnB base base w wr vb (bs ++ leB n k)
set_option maxHeartbeats 400000 in
set_option maxRecDepth 100000 in
theorem lowest_first (n many base : Nat) (km : Int) (hkm : km = (many : Int)) (bs : List UInt8) (v : Value) (w : World) (hn : n ≤ 18446744073709551615) (hw : many ≤ 8) (hb : base ≤ w.heap.size) (hl : bs.length ≤ 70368744177664) (ho : w.ownsRow base 5 1 v bs.length (bs.map bV)) :
    Calls Tryd.prog 51 #[v, .int .u64 n, .int .i64 km] w fun e w' => ∃ v', e = .returned v' ∧ OwnB base base w w' v' (bs ++ leB n many) := by
  subst hkm
  obtain ⟨i0, hi, hz0, hz1, hz2⟩ := info_parts info_u8
  have HO : Hid (OwnB base base w w v (bs ++ leB n 0)) := ⟨by simpa [leB] using ho, Below.refl _ _, hb⟩
  clear ho
  go_enter Tryd.func51, Tryd.ntmps51
  go_wp2_with fail
  go_loopw [0, 1, 8] (fun vb vn vi wr => LowestInv n many base bs w vb vn vi wr) (fun _ _ i _ => many - (intOf i).toNat)
  case atStart => exact ⟨0, n, by omega, rfl, rfl, by simp, HO.out⟩
  case round =>
    obtain ⟨k, q, hk, rfl, rfl, hq, hown⟩ := hrel
    have HO := Lib.hid hown
    clear hown
    by_cases hlt : k < many
    · have hq2 : q ≤ 18446744073709551615 := by rw [hq]; exact Nat.le_trans (Nat.div_le_self _ _) hn
      obtain ⟨c, hc⟩ : ∃ c, c = UInt8.ofNat q := ⟨_, rfl⟩
      have hby : (q : Int) % 256 = bv c := by
        rw [hc, ← bv_of, IntKind.wrap_u8']
      have HT : Hid (bs ++ leB n (k + 1) = (bs ++ leB n k) ++ [c]) := by
        show _ = _
        rw [hc, hq, leB, List.append_assoc]
      have HQ : Hid (q / 256 = n / 256 ^ (k + 1)) := by
        show _ = _
        rw [hq, Nat.pow_succ, Nat.div_div_eq_div_mul]
      obtain ⟨cs, hcs⟩ : ∃ cs, cs = bs ++ leB n k := ⟨_, rfl⟩
      have hcl : cs.length ≤ 70368744177680 := by rw [hcs, List.length_append, leB_length]; omega
      rw [← hcs] at HO HT
      clear hq hc hcs
      go_wp2_with (at_builtin; refine wpList_append_own _ rfl _ _ 85 rfl base 5 i0 (.int .u8 0) 1 1 Tryd.underlying85 hi hz0 hz1 hz2 rfl (by decide) _ cs.length _ rfl (HO.out.1.alloc _) ⟨wr.heap.size, 0, none⟩ 1 1 [.int .u8 (bv c)] rfl rfl (cell_one_new _ _ _) (one_u8 _) (by unfold maxLen; omega) (by omega) (by have := HO.out.2.2; simp; omega) ?_; intro v2 w3 ho3 hg3 _; have HN := Lib.hid (HO.out.push c (Nat.le_refl _) ho3 hg3); clear ho3 hg3; go_frame)
      go_roundw
      case rel =>
        refine ⟨k + 1, q / 256, by omega, by go_num, ?_, HQ.out, by rw [HT.out]; exact HN.out⟩
        first | rfl | (congr 1; omega) | (congr 1; simp; omega)
      case measure => simp [intOf]; omega
    · have hkn : k = many := by omega
      subst hkn
      clear hlt
      go_wp2_with fail
      go_ret
      exact ⟨_, rfl, HO.out⟩
end Go.Proofs.YtlmfchcafhidoaaDoor.Sha

/-
  A coin's bytes, as a set's digest reads them: package coins writes them into new memory; nothing that was there turns. Condition: a coin as the model has it.
-/
namespace Go.Proofs.YtlmfchcafhidoaaDoor.Sha
open Go Go.RowKit
set_option maxHeartbeats 2000000 in
set_option maxRecDepth 100000 in
theorem written_any (x : TSp) (hx : SpOk x) (w : World) :
    Calls Tryd.prog 36 #[.agg (spL x).toArray] w fun e w' => ∃ v', e = .returned v' ∧ w'.ownsRow w.heap.size 5 1 v' (spB x).length ((spB x).map bV) ∧ Below w.heap.size w w' := by
  obtain ⟨i0, hi, hz0, hz1, hz2⟩ := info_parts info_u8
  have LX : Hid ((spL x).length = 68) := spL_length hx
  have HE : Hid (spB x = x.at_.h ++ leB x.at_.n 4 ++ leB x.coin.val 8 ++ x.coin.lock ++ leB (hN x.coin.height) 4 ++ [if x.coin.base then 1 else 0]) := rfl
  obtain ⟨bx, hbx⟩ : ∃ bx, bx = spB x := ⟨_, rfl⟩
  rw [← hbx] at HE ⊢
  obtain ⟨h, hh⟩ : ∃ h, h = x.at_.h := ⟨_, rfl⟩
  obtain ⟨n, hn⟩ : ∃ n, n = x.at_.n := ⟨_, rfl⟩
  obtain ⟨z, hz⟩ : ∃ z, z = x.coin.val := ⟨_, rfl⟩
  obtain ⟨lk, hlk⟩ : ∃ lk, lk = x.coin.lock := ⟨_, rfl⟩
  obtain ⟨t, ht⟩ : ∃ t, t = x.coin.height := ⟨_, rfl⟩
  obtain ⟨bb, hbb⟩ : ∃ bb, bb = x.coin.base := ⟨_, rfl⟩
  rw [← hh, ← hn, ← hz, ← hlk, ← ht, ← hbb] at HE
  have R1 : ∀ (W : World) (g : Nat), W.heap[g]? = some (.cells (spL x).toArray 45 (0, 0)) → W.rangeAt g 0 (spL x) := fun W g q => range_of_box q
  have K0 : Hid (∀ (W : World) (g : Nat), W.heap[g]? = some (.cells (spL x).toArray 45 (0, 0)) → SrcB W (.slice (some ⟨g, 0, none⟩) 32 32) h) := fun W g q => by
    rw [hh]
    exact src_range (pt_hash_r (sp_pt (R1 W g q))) hx.1.1.symm (by omega) (Nat.le_refl _)
  have K1 : Hid (∀ (W : World) (g : Nat), W.heap[g]? = some (.cells (spL x).toArray 45 (0, 0)) → W.cell? ⟨g, 32, none⟩ = some (.int .u32 (n : Int))) := fun W g q => by
    rw [hn]
    have := pt_num_r hx.1.1 (sp_pt (R1 W g q))
    rwa [Nat.zero_add] at this
  have K2 : Hid (∀ (W : World) (g : Nat), W.heap[g]? = some (.cells (spL x).toArray 45 (0, 0)) → W.cell? ⟨g, 33, none⟩ = some (.int .u64 (z : Int))) := fun W g q => by
    rw [hz]
    exact mn_val (sp_mn hx (R1 W g q))
  have K3 : Hid (∀ (W : World) (g : Nat), W.heap[g]? = some (.cells (spL x).toArray 45 (0, 0)) → SrcB W (.slice (some ⟨g, 34, none⟩) 32 32) lk) := fun W g q => by
    rw [hlk]
    exact src_range (mn_lock (sp_mn hx (R1 W g q))) hx.2.1.symm (by omega) (Nat.le_refl _)
  have K4 : Hid (∀ (W : World) (g : Nat), W.heap[g]? = some (.cells (spL x).toArray 45 (0, 0)) → W.cell? ⟨g, 66, none⟩ = some (.int .i64 t)) := fun W g q => by
    rw [ht]
    exact mn_height hx.2.1 (sp_mn hx (R1 W g q))
  have K5 : Hid (∀ (W : World) (g : Nat), W.heap[g]? = some (.cells (spL x).toArray 45 (0, 0)) → W.cell? ⟨g, 67, none⟩ = some (.bool bb)) := fun W g q => by
    rw [hbb]
    exact mn_base hx.2.1 (sp_mn hx (R1 W g q))
  have LH : Hid (h.length = 32) := by show _ = _; rw [hh]; exact hx.1.1
  have LL : Hid (lk.length = 32) := by show _ = _; rw [hlk]; exact hx.2.1
  have nb : n ≤ 4294967295 := by rw [hn]; exact hx.1.2
  have zb : z ≤ 18446744073709551615 := by rw [hz]; exact hx.2.2.1
  have NB := Lib.hid nb
  have ZB := Lib.hid zb
  obtain ⟨tn, htn⟩ : ∃ tn, tn = hN t := ⟨_, rfl⟩
  rw [← htn] at HE
  have tw : IntKind.u64.wrap t = (tn : Int) := by
    rw [htn, IntKind.wrap_u64, hN]
    omega
  have TB : Hid (tn ≤ 18446744073709551615) := by show _ ≤ _; rw [htn, hN]; omega
  have nw : IntKind.u64.wrap (n : Int) = (n : Int) := by rw [IntKind.wrap_u64]; omega
  have tm : t % 18446744073709551616 = (tn : Int) := by rw [htn, hN]; omega
  obtain ⟨sx, hsx⟩ : ∃ sx, sx = spL x := ⟨_, rfl⟩
  rw [← hsx] at LX K0 K1 K2 K3 K4 K5 ⊢
  clear hx hh hn hz hlk ht hbb hsx R1 htn hbx
  go_enter Tryd.func36, Tryd.ntmps36
  go_upto_region 1 with fail
  have f0 := heap_alloc_new w (.cells sx.toArray 45 (0, 0))
  have b0 := (Below.refl w.heap.size w).alloc (Nat.le_refl _) (.cells sx.toArray 45 (0, 0))
  generalize hw1 : World.alloc _ _ = w1
  have e1 : w.alloc (.cells sx.toArray 45 (0, 0)) = w1 := hw1
  rw [e1] at f0 b0
  obtain ⟨g0, hg0⟩ : ∃ g0, g0 = w.heap.size := ⟨_, rfl⟩
  have G0 : Hid (w.heap.size ≤ g0) := by show _ ≤ _; rw [hg0]; exact Nat.le_refl _
  rw [← hg0] at f0 ⊢
  obtain ⟨b1, hb1⟩ : ∃ b1, b1 = w1.heap.size := ⟨_, rfl⟩
  have GL : Hid (g0 < b1) := by show _ < _; rw [hb1]; exact (Array.getElem?_eq_some_iff.1 f0).1
  have F0 := Lib.hid f0
  have B0 := Lib.hid b0
  have X1 := Lib.hid f0
  have B1 : Hid (Below b1 w1 w1) := Below.refl _ _
  have BX : Hid (∀ W, Below b1 w1 W → W.heap[g0]? = some (.cells sx.toArray 45 (0, 0))) := fun W hW => by rw [hW.block g0 GL.out]; exact F0.out
  have WB : Hid (w.heap.size ≤ b1) := Nat.le_trans G0.out (Nat.le_of_lt GL.out)
  have HB1 := Lib.hid hb1
  clear f0 b0 hw1 e1 hg0 hb1
  go_wp2_with fail
  refine (sclone_any h g0 0 32 32 w1 LH.out.symm (by omega) (by omega) (K0.out _ _ X1.out)).mono ?_
  rintro e w2 ⟨v2, rfl, o2⟩
  rw [← HB1.out] at o2
  have O2 := Lib.hid o2.1
  have B2 := Lib.hid o2.2.1
  have X2 := Lib.hid (BX.out w2 B2.out)
  have N2 : Hid (b1 ≤ w2.heap.size) := o2.2.2
  have c1 := K1.out _ _ X2.out
  clear o2 X1 B1
  go_wp2_with fail
  refine (lowest_first n 4 b1 4 rfl h v2 w2 (Nat.le_trans NB.out (by omega)) (by omega) N2.out (by rw [LH.out]; omega) O2.out).mono ?_
  rintro e w3 ⟨v3, rfl, o3⟩
  have O3 := Lib.hid o3.1
  have B3 := Lib.hid (B2.out.trans o3.2.1)
  have X3 := Lib.hid (BX.out w3 B3.out)
  have N3 : Hid (b1 ≤ w3.heap.size) := o3.2.2
  clear o3
  have c2 := K2.out _ _ X3.out
  have L3 : Hid ((h ++ leB n 4).length = 36) := by show _ = _; rw [List.length_append, LH.out, leB_length]
  clear c1
  go_wp2_with fail
  refine (lowest_first z 8 b1 8 rfl (h ++ leB n 4) v3 w3 ZB.out (by omega) N3.out (by rw [L3.out]; omega) O3.out).mono ?_
  rintro e w4 ⟨v4, rfl, o4⟩
  have O4 := Lib.hid o4.1
  have B4 := Lib.hid (B3.out.trans o4.2.1)
  have X4 := Lib.hid (BX.out w4 B4.out)
  have N4 : Hid (b1 ≤ w4.heap.size) := o4.2.2
  clear o4
  obtain ⟨c4, hc4⟩ : ∃ c4, c4 = h ++ leB n 4 ++ leB z 8 := ⟨_, rfl⟩
  have L4 : Hid (c4.length = 44) := by show _ = _; rw [hc4, List.length_append, L3.out, leB_length]
  rw [← hc4] at O4
  have C4 := Lib.hid hc4
  have S4 := Lib.hid (K3.out _ _ X4.out)
  clear c2 hc4
  go_upto_region 5 with (at_builtin; refine wpList_append_any _ rfl _ _ 85 rfl b1 5 i0 Tryd.underlying85 hi hz0 hz1 hz2 v4 c4.length _ rfl O4.out (.slice (some ⟨g0, 34, none⟩) 32 32) lk rfl S4.out (by rw [L4.out, LL.out]; omega) N4.out ?_; intro v5 w5 ho5 hg5; have O5 : Hid (w5.ownsRow b1 5 1 v5 (c4 ++ lk).length ((c4 ++ lk).map bV)) := (by show w5.ownsRow _ _ _ _ _ _; rw [List.length_append, List.map_append]; exact ho5); have B5 := Lib.hid (own_grown B4.out (Nat.le_refl _) N4.out O4.out hg5); have N5 : Hid (b1 ≤ w5.heap.size) := Nat.le_trans N4.out hg5.size; clear ho5 hg5; go_frame)
  have X5 := Lib.hid (BX.out w5 B5.out)
  have c4' := K4.out _ _ X5.out
  have L5 : Hid ((c4 ++ lk).length = 76) := by show _ = _; rw [List.length_append, L4.out, LL.out]
  go_wp2_with fail
  refine (lowest_first tn 4 b1 4 rfl (c4 ++ lk) v5 w5 TB.out (by omega) N5.out (by rw [L5.out]; omega) O5.out).mono ?_
  rintro e w6 ⟨v6, rfl, o6⟩
  have O6 := Lib.hid o6.1
  have B6 := Lib.hid (B5.out.trans o6.2.1)
  have X6 := Lib.hid (BX.out w6 B6.out)
  have N6 : Hid (b1 ≤ w6.heap.size) := o6.2.2
  clear o6
  have c6 := K5.out _ _ X6.out
  obtain ⟨c7, hc7⟩ : ∃ c7, c7 = c4 ++ lk ++ leB tn 4 := ⟨_, rfl⟩
  have L7 : Hid (c7.length = 80) := by show _ = _; rw [hc7, List.length_append, L5.out, leB_length]
  rw [← hc7] at O6
  have C7 := Lib.hid hc7
  have FIN : Hid (∀ W v, W.ownsRow b1 5 1 v (c7.length + 1) (c7.map bV ++ [.int .u8 (bv (if bb then 1 else 0))]) → Below b1 w1 W → W.ownsRow w.heap.size 5 1 v bx.length (bx.map bV) ∧ Below w.heap.size w W) := fun W v h1 h2 => by
    refine ⟨?_, B0.out.trans (h2.mono WB.out)⟩
    have e : bx = c7 ++ [if bb then 1 else 0] := by rw [HE.out, C7.out, C4.out]
    rw [e, List.length_append, List.map_append]
    rcases h1 with ⟨hl, hv | ⟨g, cap, cur, hv, hg, rest⟩⟩
    · exact ⟨hl, .inl hv⟩
    · exact ⟨hl, .inr ⟨g, cap, cur, hv, Nat.le_trans WB.out hg, rest⟩⟩
  clear c4' hc7 tw tm nw
  cases bb with
  | true =>
    go_wp2_with (at_builtin; refine wpList_append_own _ rfl _ _ 85 rfl b1 5 i0 (.int .u8 0) 1 1 Tryd.underlying85 hi hz0 hz1 hz2 rfl (by decide) _ c7.length _ rfl (O6.out.alloc _) ⟨w6.heap.size, 0, none⟩ 1 1 [.int .u8 1] rfl rfl (cell_one_new _ _ _) (one_u8 _) (by rw [L7.out]; unfold maxLen; omega) (by rw [L7.out]; omega) (by have := N6.out; simp; omega) ?_; intro v8 w8 ho8 hg8 _; have O8 := Lib.hid ho8; have B8 := Lib.hid (own_grown (B6.out.alloc N6.out _) (Nat.le_refl _) (by have := N6.out; simp; omega) (O6.out.alloc _) hg8); clear ho8 hg8; go_frame)
    go_ret
    exact ⟨_, rfl, FIN.out _ _ O8.out B8.out⟩
  | false =>
    go_wp2_with (at_builtin; refine wpList_append_own _ rfl _ _ 85 rfl b1 5 i0 (.int .u8 0) 1 1 Tryd.underlying85 hi hz0 hz1 hz2 rfl (by decide) _ c7.length _ rfl (O6.out.alloc _) ⟨w6.heap.size, 0, none⟩ 1 1 [.int .u8 0] rfl rfl (cell_one_new _ _ _) (one_u8 _) (by rw [L7.out]; unfold maxLen; omega) (by rw [L7.out]; omega) (by have := N6.out; simp; omega) ?_; intro v8 w8 ho8 hg8 _; have O8 := Lib.hid ho8; have B8 := Lib.hid (own_grown (B6.out.alloc N6.out _) (Nat.le_refl _) (by have := N6.out; simp; omega) (O6.out.alloc _) hg8); clear ho8 hg8; go_frame)
    go_ret
    exact ⟨_, rfl, FIN.out _ _ O8.out B8.out⟩
end Go.Proofs.YtlmfchcafhidoaaDoor.Sha

/-
  digest.Sha answers the SHA-256 of the bytes that it is given, digest.Twice that of that, and turn nothing that was there. Conditions: the bytes lie where the slice says, the table is there, fewer than 2^59 bytes.
-/
namespace Go.Proofs.YtlmfchcafhidoaaDoor.Sha
open Go Go.RowKit
/-- Write, whatever the slice. -/
theorem write_any (l bs : List UInt8) (v : Value) (B : Nat) (w : World) (hk : KTab w) (hB0 : B ≠ 3) (hsrc : SrcB w v bs) (hne : ∀ sp n cap, v = .slice (some sp) n cap → 0 < n → sp.block ≠ B)
    (hlen : l.length + bs.length ≤ 1152921504606846975) (hinv : WInv w B l) :
    Calls Tryd.prog 35 #[.pointer (some ⟨B, 0, none⟩), v] w fun e w' =>
      e = .returned (.tuple #[]) ∧ WInv w' B (l ++ bs) ∧ w.grownBy w' (some B) := by
  rcases hsrc with ⟨sp, cap, rfl, rfl⟩ | ⟨h0, bb, off, cap, rfl, hc, hs⟩
  · rw [List.append_nil]
    exact write_none l sp cap B w (by simpa using hlen) hinv
  · exact write_some l bs bb off cap B w hk hB0 (hne _ _ _ rfl h0) hc hlen hinv hs
theorem sha_setup (w : World) (z : Array Value) (T : TypeId) : Below w.heap.size w ((w.alloc (.cells z T)).alloc (.cells zeroW 83))
    ∧ ((w.alloc (.cells z T)).alloc (.cells zeroW 83)).heap.size = w.heap.size + 2
    ∧ ((w.alloc (.cells z T)).alloc (.cells zeroW 83)).heap[w.heap.size + 1]? = some (.cells zeroW 83 (0, 0))
    ∧ ((w.alloc (.cells z T)).alloc (.cells zeroW 83)).heap[w.heap.size]? = some (.cells z T (0, 0)) :=
  ⟨((Below.refl _ _).alloc (Nat.le_refl _) _).alloc (by simp) _, by simp, heap_alloc2_new _ _ _, heap_alloc2_old _ _ _⟩
end Go.Proofs.YtlmfchcafhidoaaDoor.Sha

/-
  A set's digest: of all coins' bytes, in the order of their places; nothing that was there turns. Conditions: the set lies where the pointer says, at most 2^20 coins; the table of the rounds' words is there.
-/
namespace Go.Proofs.YtlmfchcafhidoaaDoor.Sha
open Go Go.RowKit
theorem RwAt.kps {F : Nat → Prop} {k : Nat} {w w' : World} {v : Value} {L : List (List Value)} (h : RwAt k w v L) (hk : Kps F w w') (h0 : 0 < k) (hf : ∀ sp n cap, v = .slice (some sp) n cap → F sp.block) : RwAt k w' v L := by
  obtain ⟨ho, sp, cap, hv, hc, hr⟩ := h
  refine ⟨ho, sp, cap, hv, hc, fun hl => ?_⟩
  obtain ⟨b, o, hs, hx⟩ := hr hl
  refine ⟨b, o, hs, fun i x hi j u hj => ?_⟩
  have h1 := hx i x hi j u hj
  rw [World.cell?_of_block (hk.block b (World.block_lt_of_cell? w _ h1) (hf ⟨b, o, none⟩ L.length cap (by rw [hv, hs])))]
  exact h1
/-- All coins' bytes. -/
def bytesC (l : List TSp) : List UInt8 := l.flatMap spB
theorem bytesC_take {l : List TSp} {k : Nat} {x : TSp} (h : l[k]? = some x) : bytesC (l.take k) ++ spB x = bytesC (l.take (k + 1)) := by
  have hk := (List.getElem?_eq_some_iff.1 h).1
  rw [List.take_succ_eq_append_getElem hk, (List.getElem?_eq_some_iff.1 h).2]
  simp [bytesC]
theorem bytesC_length : ∀ {l : List TSp}, (∀ x ∈ l, SpOk x) → (bytesC l).length = 81 * l.length
  | [], _ => rfl
  | x :: l, h => by
    have ih := bytesC_length (l := l) (fun y hy => h y (List.mem_cons_of_mem _ hy))
    simp only [bytesC] at ih
    simp only [bytesC, List.flatMap_cons, List.length_append, ih, spB_length (h x List.mem_cons_self), List.length_cons]
    omega
def SmInvC (n g0 : Nat) (l : List TSp) (v : Value) (w w3 : World) (vi : Value) (wr : World) : Prop :=
  ∃ k : Nat, k ≤ n ∧ vi = .int .i64 k ∧ WInv wr (g0 + 1) (bytesC (l.take k)) ∧ RwAt 68 wr v (l.map spL) ∧ Below w.heap.size w wr ∧ wr.heap[g0]? = some (.cells (List.replicate 32 (bV 0)).toArray 24 (0, 0)) ∧ w3.heap.size ≤ wr.heap.size
set_option maxHeartbeats 4000000 in
set_option maxRecDepth 100000 in
theorem setsum_any (w : World) (a : Nat) (m : Option Nat) (l : List TSp) (h : SetAt w a m l) (hn : l.length ≤ 1048576) (hk : KTab w) :
    Calls Tryd.prog 24 #[.pointer (some ⟨a, 0, none⟩)] w fun e w' => ∃ l', e = .returned (.agg ((sha (bytesC l')).map bV).toArray) ∧ l'.Perm l ∧ SortedC l' ∧ Below w.heap.size w w' := by
  have HS := Lib.hid h
  have HK := Lib.hid hk
  have OK : Hid (∀ x ∈ l, SpOk x) := h.map.ok
  have NL := Lib.hid hn
  have hzw := zero_writer
  clear h hk hn
  go_enter Tryd.func24, Tryd.ntmps24
  go_upto_region 2 with fail
  have f0 := row_below (heap_alloc_new w (.cells (List.replicate 32 (bV 0)).toArray 24 (0, 0))) ((Below.refl _ _).alloc (Nat.le_refl _) (.cells zeroW 83 (0, 0)))
  have f1 := heap_alloc_new (w.alloc (.cells (List.replicate 32 (bV 0)).toArray 24 (0, 0))) (.cells zeroW 83 (0, 0))
  have b0 := ((Below.refl w.heap.size w).alloc (Nat.le_refl _) (.cells (List.replicate 32 (bV 0)).toArray 24 (0, 0))).alloc (by simp) (.cells zeroW 83 (0, 0))
  rw [World.size_alloc] at f1
  generalize hw1 : World.alloc _ _ = w1
  have e1 : (w.alloc (.cells (List.replicate 32 (bV 0)).toArray 24 (0, 0))).alloc (.cells zeroW 83 (0, 0)) = w1 := hw1
  rw [e1] at f0 f1 b0
  obtain ⟨g0, hg0⟩ : ∃ g0, g0 = w.heap.size := ⟨_, rfl⟩
  have G0 : Hid (w.heap.size ≤ g0) := by show _ ≤ _; rw [hg0]; exact Nat.le_refl _
  rw [← hg0] at f0 f1 ⊢
  have GL : Hid (g0 + 1 < w1.heap.size) := (Array.getElem?_eq_some_iff.1 f1).1
  have F0 := Lib.hid f0
  have I1 := Lib.hid (zero_inv f1)
  have B1 := Lib.hid b0
  have HS1 := Lib.hid (HS.out.below b0)
  have KP : Hid (3 < w.heap.size) := HK.out.pos
  clear f0 f1 b0 hw1 e1 hg0 hzw
  go_wp2_with fail
  refine (setall_any w1 a m l HS1.out NL.out).mono ?_
  rintro e w3 ⟨v, l', rfl, p1, p2, p3, p4, p5⟩
  obtain ⟨sp, cap, rfl⟩ := p3.shape
  rw [List.length_map] at p3 p4 ⊢
  obtain ⟨n, hnl⟩ : ∃ n, n = l'.length := ⟨_, rfl⟩
  rw [← hnl] at p3 p4 ⊢
  have N := Lib.hid hnl
  have P1 := Lib.hid p1
  have P2 := Lib.hid p2
  have P3 := Lib.hid p3
  have P4 := Lib.hid p4
  have F3 := Lib.hid (row_below F0.out p5)
  have I3 := Lib.hid (I1.out.below p5)
  have B3 := Lib.hid (B1.out.trans (p5.mono B1.out.size))
  have W13 : Hid (w1.heap.size ≤ w3.heap.size) := p5.size
  have OK' : Hid (∀ x ∈ l', SpOk x) := fun x hx => OK.out x (p1.mem_iff.1 hx)
  have NB : Hid (n ≤ 1048576) := by show _ ≤ _; rw [hnl, p1.length_eq]; exact NL.out
  have nb := NB.out
  clear hnl p1 p2 p3 p4 p5 F0 I1
  go_wp2_with fail
  go_loopw [9] (fun vi wr => SmInvC n g0 l' (.slice sp n cap) w w3 vi wr) (fun vi _ => n - (intOf vi).toNat)
  case atStart => exact ⟨0, by omega, rfl, I3.out, P3.out, B3.out, F3.out, Nat.le_refl _⟩
  case round =>
    clear I3 F3 B3 P3
    obtain ⟨k, hkn, rfl, hi, hr, hb, hf, hsz⟩ := hrel
    have I4 := Lib.hid hi
    have R4 := Lib.hid hr
    have B4 := Lib.hid hb
    have F4 := Lib.hid hf
    have S4 := Lib.hid hsz
    have K4 := Lib.hid (HK.out.below hb)
    clear hi hr hb hf hsz
    by_cases hlt : k < n
    · obtain ⟨b, o, rfl, hg⟩ := R4.out.get (by omega)
      have hkl : k < l'.length := by rw [← N.out]; exact hlt
      obtain ⟨x, hx⟩ : ∃ x, l'[k]? = some x := ⟨_, List.getElem?_eq_getElem hkl⟩
      have ox := OK'.out x (List.mem_of_getElem? hx)
      have RX := Lib.hid (hg k (spL x) (by rw [List.getElem?_map, hx]; rfl))
      have LX : Hid ((spL x).length = 68) := spL_length ox
      have LX' : Hid ((spL x).toArray.size = 68) := spL_size ox
      have XO : Hid ((spL x).toArray.all (·.oneCell') = true) := spL_all x
      have WX : Hid (∀ W, Calls Tryd.prog 36 #[.agg (spL x).toArray] W fun e w' => ∃ v', e = .returned v' ∧ w'.ownsRow W.heap.size 5 1 v' (spB x).length ((spB x).map bV) ∧ Below W.heap.size W w') := fun W => written_any x ox W
      have LB : Hid ((spB x).length = 81) := spB_length ox
      have TK : Hid (bytesC (l'.take k) ++ spB x = bytesC (l'.take (k + 1))) := bytesC_take hx
      have LT : Hid ((bytesC (l'.take k)).length ≤ 84934656) := by
        show _ ≤ _
        rw [bytesC_length (fun y hy => OK'.out y (List.mem_of_mem_take hy)), List.length_take]
        have := NB.out
        omega
      have p0 : 0 ≤ (k : Int) := by omega
      have q0 : (k : Int) < (n : Int) := by omega
      have BK : Hid (b ≠ g0 + 1) := by
        have h1 := P4.out ⟨b, o, none⟩ n cap rfl
        have h1' : w1.heap.size ≤ b := h1
        have h2 := GL.out
        show b ≠ g0 + 1
        omega
      obtain ⟨sx, hsx⟩ : ∃ sx, sx = spL x := ⟨_, rfl⟩
      rw [← hsx] at RX LX LX' XO WX
      clear hg hx ox hkl hsx
      go_upto_region 5 with ((with_reducible show wpList _ _ _ _ _ _); first | (refine wpList_load_mid rfl 45 (.tmp 11) rfl b (o + k * 68) rfl sx _ RX.out Tryd.underlying45 rfl (by rw [LX.out]; kernel_rfl) ?_; go_frame) | (refine wpList_store_row rfl 45 (.tmp 5) (.tmp 12) rfl wr.heap.size sx.toArray rfl rfl 45 _ (heap_alloc_new _ _) (by rw [LX'.out]; kernel_rfl) (by rw [LX'.out]; rfl) XO.out ?_; go_frame))
      obtain ⟨_, f2, f3, f4⟩ := fill_setup (Below.refl wr.heap.size wr) (spL ⟨⟨List.replicate 32 0, 0⟩, mnZ⟩).toArray sx.toArray 45
      generalize hw5 : World.setRow _ _ _ = w5
      have e5 : World.setRow (wr.alloc (.cells (spL ⟨⟨List.replicate 32 0, 0⟩, mnZ⟩).toArray 45)) wr.heap.size sx.toArray = w5 := hw5
      rw [e5] at f2 f3 f4
      obtain ⟨g5, hg5⟩ : ∃ g5, g5 = wr.heap.size := ⟨_, rfl⟩
      rw [← hg5] at f2 ⊢
      have F5 := Lib.hid f2
      have N5 := Lib.hid f4
      clear f2 f3 f4 hw5 e5 hg5 p0 q0
      go_wp2_with ((with_reducible show wpList _ _ _ _ _ _); (refine wpList_load_row rfl 45 (.tmp 5) rfl g5 rfl 45 sx.toArray (0, 0) _ F5.out Tryd.underlying45 rfl (by rw [LX'.out]; kernel_rfl) ?_; go_frame))
      refine (WX.out w5).mono ?_
      rintro e w6 ⟨v6, rfl, o6, b6⟩
      have BB := Lib.hid (N5.out.trans (b6.mono N5.out.size))
      have S6 := Lib.hid (src_of_own_any (by rw [LB.out]; omega) o6)
      have V6 : Hid (∀ sp n cap, v6 = .slice (some sp) n cap → 0 < n → sp.block ≠ g0 + 1) := fun sp n cap hv _ e => by
        have h1 := (o6.lt sp.block (by rw [hv]; rfl)).1
        have h2 := N5.out.size
        have h3 := GL.out
        have h4 := W13.out
        have h5 := S4.out
        omega
      have I6 := Lib.hid (I4.out.below BB.out)
      have R6 := Lib.hid (R4.out.below BB.out)
      have B6 := Lib.hid (B4.out.trans (BB.out.mono B4.out.size))
      have F6 := Lib.hid (row_below F4.out BB.out)
      have S6' : Hid (w3.heap.size ≤ w6.heap.size) := Nat.le_trans S4.out BB.out.size
      have K6 := Lib.hid (HK.out.below B6.out)
      clear o6 b6 WX
      go_wp2_with fail
      refine (write_any (bytesC (l'.take k)) (spB x) v6 (g0 + 1) w6 K6.out (by have := KP.out; have := G0.out; omega) S6.out V6.out (by rw [LB.out]; have := LT.out; omega) I6.out).mono ?_
      rintro e w7 ⟨rfl, i7, q7⟩
      rw [TK.out] at i7
      have I7 := Lib.hid i7
      have R7 := Lib.hid (R6.out.kps (F := fun k => k ≠ g0 + 1) (Kps.grown q7 fun k _ hk e => hk (Option.some.inj e)) (by omega) (fun sp n cap hv => by cases hv; exact BK.out))
      have B7 := Lib.hid (B6.out.grown q7 B6.out.size (fun k hk => by cases hk; have := G0.out; omega))
      have F7 := Lib.hid (row_far F6.out q7 (fun e => by have := Option.some.inj e; omega))
      have S7 : Hid (w3.heap.size ≤ w7.heap.size) := Nat.le_trans S6'.out q7.size
      clear i7 q7
      go_wp2_with fail
      go_roundw
      case rel => exact ⟨k + 1, by omega, by go_num, I7.out, R7.out, B7.out, F7.out, S7.out⟩
      case measure => simp [intOf]; omega
    · have hke : l'.take k = l' := List.take_of_length_le (by rw [← N.out]; omega)
      rw [hke] at I4
      have TL : Hid ((bytesC l').length ≤ 84934656) := by
        show _ ≤ _
        rw [bytesC_length OK'.out, ← N.out]
        have := NB.out
        omega
      have hge : ¬ (k : Int) < (n : Int) := by omega
      clear hke
      go_wp2_with fail
      refine (sum_any (bytesC l') (g0 + 1) wr K4.out (by have := TL.out; omega) I4.out).mono ?_
      rintro e w5 ⟨rfl, b5⟩
      have LS : Hid ((sha (bytesC l')).length = 32) := sha_length _
      have F5 := Lib.hid (row_below F4.out b5)
      have B5 := Lib.hid (B4.out.trans (b5.mono B4.out.size))
      clear b5
      obtain ⟨sl, hsl⟩ : ∃ sl, sl = sha (bytesC l') := ⟨_, rfl⟩
      rw [← hsl] at LS ⊢
      have SL := Lib.hid hsl
      have LS' : Hid ((sl.map bV).toArray.size = 32) := by show _ = _; simp [LS.out]
      clear hsl
      go_wp2_with ((with_reducible show wpList _ _ _ _ _ _); refine wpList_store_row rfl 24 (.tmp 2) (.tmp 17) rfl g0 (sl.map bV).toArray rfl rfl 24 _ F5.out (by rw [LS'.out]; kernel_rfl) (by rw [LS'.out]; rfl) (bV_one _) ?_; go_frame)
      refine bodyPost_ret (results_cell_row rfl _ _ g0 24 (sl.map bV).toArray (0, 0) _ rfl (setRow_heap _ _ _ _ _ _ F5.out) Tryd.underlying24 rfl (by rw [LS'.out]; kernel_rfl)) rfl ?_
      exact ⟨l', by rw [SL.out], P1.out, P2.out, below_setRow B5.out G0.out _⟩
end Go.Proofs.YtlmfchcafhidoaaDoor.Sha

/-
  Two sets side by side; a set's coins in the one order; a part of a coin written in its box. No conditions beyond those that each states.
-/
namespace Go.Proofs.YtlmfchcafhidoaaDoor.Sha
open Go Go.RowKit
theorem ex_sorted (l : List TSp) (ho : ∀ x ∈ l, SpOk x) (ha : l.Pairwise (fun x y => x.at_ ≠ y.at_)) : ∃ L, L.Perm l ∧ SortedC L := by
  obtain ⟨d, rfl⟩ := lift_ok l ho
  have ht : ∀ a b c : OSp, (!ltSp b.1 a.1) = true → (!ltSp c.1 b.1) = true → (!ltSp c.1 a.1) = true := fun a b c h1 h2 => by
    have := swoS.ntrans c b a
    rw [lt_cfS, lt_cfS, lt_cfS] at this
    simp only [Bool.not_eq_true'] at h1 h2 ⊢
    exact this h2 h1
  have hto : ∀ a b : OSp, ((!ltSp b.1 a.1) || (!ltSp a.1 b.1)) = true := fun a b => by
    cases h : ltSp b.1 a.1
    · rfl
    · rw [ltSp_asym b.2 a.2 h]; rfl
  have hp := List.mergeSort_perm d (fun a b => !ltSp b.1 a.1)
  have hs := List.pairwise_mergeSort ht hto d
  refine ⟨(d.mergeSort (fun a b => !ltSp b.1 a.1)).map (·.1), hp.map _, ?_⟩
  have ha2 : ((d.mergeSort (fun a b => !ltSp b.1 a.1)).map (·.1)).Pairwise (fun x y => x.at_ ≠ y.at_) := ((hp.map (·.1)).pairwise_iff (fun {x y} h => Ne.symm h)).2 ha
  unfold SortedC
  rw [List.pairwise_map] at ha2 ⊢
  exact (hs.and ha2).imp (fun {a b} ⟨h1, h2⟩ => ltSp_total b.2 a.2 (fun e => h2 e.symm) (by simpa using h1))
section
variable {w w' : World} {a : Nat} {m : Option Nat} {l L : List TSp}
theorem setsum_srt (w : World) (a : Nat) (m : Option Nat) (l L : List TSp) (h : SetAt w a m l) (hn : l.length ≤ 1048576) (hk : KTab w) (hp : L.Perm l) (hs : SortedC L) (sl : List UInt8) (hsl : sl = sha (bytesC L)) :
    Calls Tryd.prog 24 #[.pointer (some ⟨a, 0, none⟩)] w fun e w' => e = .returned (.agg (sl.map bV).toArray) ∧ Below w.heap.size w w' :=
  (setsum_any w a m l h hn hk).mono fun _ _ ⟨l', h1, h2, h3, h4⟩ => ⟨by rw [h1, hsl, sorted_one (fun x hx => h.map.ok x (h2.mem_iff.1 hx)) (h2.trans hp.symm) h3 hs], h4⟩
theorem setall_srt (w : World) (a : Nat) (m : Option Nat) (l L : List TSp) (h : SetAt w a m l) (hn : l.length ≤ 1048576) (hp : L.Perm l) (hs : SortedC L) :
    Calls Tryd.prog 22 #[.pointer (some ⟨a, 0, none⟩)] w fun e w' => ∃ v, e = .returned v ∧ RwAt 68 w' v (L.map spL) ∧ Below w.heap.size w w' :=
  (setall_any w a m l h hn).mono fun _ _ ⟨v, l', h1, h2, h3, h4, _, h6⟩ => ⟨v, h1, by
    rw [← sorted_one (fun x hx => h.map.ok x (h2.mem_iff.1 hx)) (h2.trans hp.symm) h3 hs]
    exact h4, h6⟩
end
/-- Two sets that share no memory. -/
structure TwoS (w : World) (a : Nat) (m : Option Nat) (s : List TSp) (b : Nat) (k : Option Nat) (t : List TSp) : Prop where
  l : SetAt w a m s
  r : SetAt w b k t
  ne : a ≠ b
  x1 : m ≠ some b
  x2 : k ≠ some a
  x3 : ∀ q, m = some q → k ≠ some q
section
variable {w w' : World} {a b : Nat} {m m' k : Option Nat} {s s' t : List TSp}
theorem TwoS.symm (h : TwoS w a m s b k t) : TwoS w b k t a m s := ⟨h.r, h.l, fun e => h.ne e.symm, h.x2, h.x1, fun q e e' => h.x3 q e' e⟩
theorem TwoS.below (h : TwoS w a m s b k t) (hb : Below w.heap.size w w') : TwoS w' a m s b k t := ⟨h.l.below hb, h.r.below hb, h.ne, h.x1, h.x2, h.x3⟩
theorem TwoS.left (h : TwoS w a m s b k t) (hk : Kps (fun j => j ≠ a ∧ m ≠ some j) w w') (hs : SetAt w' a m' s') (hm : m' = m ∨ ∃ q, m' = some q ∧ w.heap.size ≤ q) : TwoS w' a m' s' b k t := by
  have hb : b < w.heap.size := (Array.getElem?_eq_some_iff.1 h.r.box).1
  refine ⟨hs, h.r.kps hk ⟨fun e => h.ne e.symm, h.x1⟩ (fun q e => ⟨fun e' => h.x2 (by rw [e, e']), fun e' => h.x3 q e' e⟩), h.ne, ?_, h.x2, ?_⟩
  · rcases hm with rfl | ⟨q, rfl, hq⟩
    · exact h.x1
    · exact fun e => by have := Option.some.inj e; omega
  · rcases hm with rfl | ⟨q, rfl, hq⟩
    · exact h.x3
    · intro q' e e'
      have := Option.some.inj e
      have := h.r.map.lt q' e'
      omega
theorem TwoS.right {k' : Option Nat} {t' : List TSp} (h : TwoS w a m s b k t) (hk : Kps (fun j => j ≠ b ∧ k ≠ some j) w w') (hs : SetAt w' b k' t') (hm : k' = k ∨ ∃ q, k' = some q ∧ w.heap.size ≤ q) : TwoS w' a m s b k' t' :=
  (h.symm.left hk hs hm).symm
end
section
variable {ops : Array Oper} {rest : List Oper} {op : Oper} {a : Act} {w : World} {Q : Exit → Act → World → Prop} {g : Nat}
theorem st_spN (hgd : op.guard = none) (x y : Operand) (ho : op.op = .store 25 x y) (hx : a.eval x = .pointer (some ⟨g, 32, none⟩)) (i : Nat) (hy : a.eval y = .int .u32 (i : Int)) (z : TSp) (hz : SpOk z) (hr : w.heap[g]? = some (.cells (spL z).toArray 45 (0, 0)))
    (hK : ∀ w', w'.heap[g]? = some (.cells (spL ⟨⟨z.at_.h, i⟩, z.coin⟩).toArray 45 (0, 0)) → w.grownBy w' (some g) → wpList Tryd.prog ops Q rest (a.put op.dst undef) w') : wpList Tryd.prog ops Q (op :: rest) a w :=
  wpList_store_part hgd 25 x y ho g 32 (z.at_.h.map bV) [nV z.at_.n] (mnL z.coin) [nV i] 45 (.int .u32 (i : Int)) hx hy rfl (by rw [List.length_map, hz.1.1]) rfl hr (by kernel_rfl) (fun u hu => by
    rw [List.mem_singleton.1 hu]
    rfl) (fun w' q1 q2 => hK w' q1 q2)
theorem st_spV (hgd : op.guard = none) (x y : Operand) (ho : op.op = .store 37 x y) (hx : a.eval x = .pointer (some ⟨g, 33, none⟩)) (i : Nat) (hy : a.eval y = .int .u64 (i : Int)) (z : TSp) (hz : SpOk z) (hr : w.heap[g]? = some (.cells (spL z).toArray 45 (0, 0)))
    (hK : ∀ w', w'.heap[g]? = some (.cells (spL ⟨z.at_, ⟨i, z.coin.lock, z.coin.height, z.coin.base⟩⟩).toArray 45 (0, 0)) → w.grownBy w' (some g) → wpList Tryd.prog ops Q rest (a.put op.dst undef) w') : wpList Tryd.prog ops Q (op :: rest) a w := by
  have e : ∀ (n : Nat), spL ⟨z.at_, ⟨n, z.coin.lock, z.coin.height, z.coin.base⟩⟩ = ptC z.at_ ++ [Value.int .u64 (n : Int)] ++ mnR z.coin := fun n => by simp [spL, mnL, mnR]
  refine wpList_store_part hgd 37 x y ho g 33 (ptC z.at_) [.int .u64 (z.coin.val : Int)] (mnR z.coin) [.int .u64 (i : Int)] 45 (.int .u64 (i : Int)) hx hy rfl (ptC_length hz.1) rfl (by rw [← e]; exact hr) (by kernel_rfl) (fun u hu => by
    rw [List.mem_singleton.1 hu]
    rfl) (fun w' q1 q2 => hK w' (by rw [e]; exact q1) q2)
theorem st_ptN (hgd : op.guard = none) (x y : Operand) (ho : op.op = .store 25 x y) (hx : a.eval x = .pointer (some ⟨g, 32, none⟩)) (i : Nat) (hy : a.eval y = .int .u32 (i : Int)) (z : TPt) (hz : PtOk z) (hr : w.heap[g]? = some (.cells (ptC z).toArray 27 (0, 0)))
    (hK : ∀ w', w'.heap[g]? = some (.cells (ptC ⟨z.h, i⟩).toArray 27 (0, 0)) → w.grownBy w' (some g) → wpList Tryd.prog ops Q rest (a.put op.dst undef) w') : wpList Tryd.prog ops Q (op :: rest) a w := by
  have e : ∀ (n : Nat), ptC ⟨z.h, n⟩ = z.h.map bV ++ [nV n] ++ [] := fun n => by simp [ptC, ptL]
  refine wpList_store_part hgd 25 x y ho g 32 (z.h.map bV) [nV z.n] [] [nV i] 27 (.int .u32 (i : Int)) hx hy rfl (by rw [List.length_map, hz.1]) rfl (by rw [← e]; exact hr) (by kernel_rfl) (fun u hu => by
    rw [List.mem_singleton.1 hu]
    rfl) (fun w' q1 q2 => hK w' (by rw [e]; exact q1) q2)
theorem st_mnV (hgd : op.guard = none) (x y : Operand) (ho : op.op = .store 37 x y) (hx : a.eval x = .pointer (some ⟨g, 0, none⟩)) (i : Nat) (hy : a.eval y = .int .u64 (i : Int)) (z : TMn) (hr : w.heap[g]? = some (.cells (mnL z).toArray 39 (0, 0)))
    (hK : ∀ w', w'.heap[g]? = some (.cells (mnL ⟨i, z.lock, z.height, z.base⟩).toArray 39 (0, 0)) → w.grownBy w' (some g) → wpList Tryd.prog ops Q rest (a.put op.dst undef) w') : wpList Tryd.prog ops Q (op :: rest) a w :=
  wpList_store_part hgd 37 x y ho g 0 [] [.int .u64 (z.val : Int)] (mnR z) [.int .u64 (i : Int)] 39 (.int .u64 (i : Int)) hx hy rfl rfl rfl hr (by kernel_rfl) (fun u hu => by
    rw [List.mem_singleton.1 hu]
    rfl) (fun w' q1 q2 => hK w' q1 q2)
end
/-! The coins that the statement makes: each at a place of its own, its value in its bound. -/
def bkX (l : List TSp) (i : Nat) : TSp := ⟨⟨(l.getD i spZ).at_.h, i⟩, mnT (l.getD i spZ).coin⟩
def bkS (l : List TSp) (k : Nat) : List TSp := (List.range k).map (bkX l)
def bkT (l : List TSp) (n k : Nat) : List TSp := (List.range k).map fun i => bkX l (n - 1 - i)
theorem bkX_ok {l : List TSp} (h : ∀ x ∈ l, SpOk x) {i : Nat} (hi : i ≤ 4294967295) : SpOk (bkX l i) := by
  have h2 : SpOk (l.getD i spZ) := by
    rw [List.getD_eq_getElem?_getD]
    cases hx : l[i]? with
    | none => exact spZ_ok
    | some x => exact h x (List.mem_of_getElem? hx)
  exact ⟨⟨h2.1.1, hi⟩, mnT_ok h2.2⟩
theorem bkS_succ (l : List TSp) (k : Nat) : bkS l (k + 1) = bkS l k ++ [bkX l k] := by simp [bkS, List.range_succ]
theorem bkT_succ (l : List TSp) (n k : Nat) : bkT l n (k + 1) = bkT l n k ++ [bkX l (n - 1 - k)] := by simp [bkT, List.range_succ]
theorem bkS_none (l : List TSp) {k i : Nat} (h : k ≤ i) : getC (bkS l k) (bkX l i).at_ = none := getC_none fun x hx e => by
  obtain ⟨j, hj, rfl⟩ := List.mem_map.1 hx
  have hj := List.mem_range.1 hj
  have := congrArg TPt.n e
  simp only [bkX] at this
  omega
theorem bkT_none (l : List TSp) {n k : Nat} (h : k < n) : getC (bkT l n k) (bkX l (n - 1 - k)).at_ = none := getC_none fun x hx e => by
  obtain ⟨j, hj, rfl⟩ := List.mem_map.1 hx
  have hj := List.mem_range.1 hj
  have := congrArg TPt.n e
  simp only [bkX] at this
  omega
theorem bkT_rev (l : List TSp) (n : Nat) : bkT l n n = (bkS l n).reverse := by
  apply List.ext_getElem
  · simp [bkT, bkS]
  · intro i h1 h2
    simp [bkT, bkS]
theorem bk_perm (l : List TSp) (n : Nat) : (bkT l n n).Perm (bkS l n) := by rw [bkT_rev]; exact List.reverse_perm _
theorem bkS_length (l : List TSp) (n : Nat) : (bkS l n).length = n := by simp [bkS]
theorem bkT_length (l : List TSp) (n k : Nat) : (bkT l n k).length = k := by simp [bkT]
theorem bkS_get (l : List TSp) {n i : Nat} (h : i < n) : (bkS l n)[i]? = some (bkX l i) := by
  rw [bkS, List.getElem?_map, List.getElem?_range h]
  rfl
theorem del_length {l : List TSp} {p : TPt} {j : Nat} {x : TSp} (ha : l.Pairwise (fun x y => x.at_ ≠ y.at_)) (hj : l[j]? = some x) (hp : x.at_ = p) : (delC l p).length + 1 = l.length := by
  have hjl := (List.getElem?_eq_some_iff.1 hj).1
  rw [← delC_idx ha hj hp, List.length_eraseIdx_of_lt hjl]
  omega
theorem del_none (l : List TSp) (p : TPt) : getC (delC l p) p = none := getC_none fun x hx e => by
  have := (List.mem_filter.1 hx).2
  simp [e] at this
theorem del_perm {l : List TSp} {p : TPt} {j : Nat} {x : TSp} (ha : l.Pairwise (fun x y => x.at_ ≠ y.at_)) (hj : l[j]? = some x) (hp : x.at_ = p) : (delC l p ++ [x]).Perm l := by
  obtain ⟨hjl, hx⟩ := List.getElem?_eq_some_iff.1 hj
  have e : l = l.take j ++ x :: l.drop (j + 1) := by
    conv => lhs; rw [← List.take_append_drop j l]
    rw [List.drop_eq_getElem_cons hjl, hx]
  rw [← delC_idx ha hj hp, List.eraseIdx_eq_take_drop_succ]
  have h1 : (l.take j ++ x :: l.drop (j + 1)).Perm (x :: (l.take j ++ l.drop (j + 1))) := List.perm_middle
  rw [← e] at h1
  exact (List.perm_append_comm (l₁ := l.take j ++ l.drop (j + 1)) (l₂ := [x])).trans h1.symm
end Go.Proofs.YtlmfchcafhidoaaDoor.Sha

/-
  A set's copy: a box and a map of its own; nothing that was there turns. Conditions: the set lies where the pointer says.
-/
namespace Go.Proofs.YtlmfchcafhidoaaDoor.Sha
open Go Go.RowKit
set_option maxHeartbeats 2000000 in
set_option maxRecDepth 100000 in
theorem mapclone_some (b : Nat) (es : Array MapEntry) (clock : Nat) (w : World) (hb : w.heap[b]? = some (.map es clock)) :
    Calls Tryd.prog 27 #[.map (some b)] w fun e w' => e = .returned (.map (some w.heap.size)) ∧ w' = w.alloc (.map es clock) := by
  have hq := fun W => run_eql_map_nil_sl (P := Tryd.prog) W 30 _ _ (some b) map_under
  go_enter Tryd.func27, Tryd.ntmps27
  go_wp2
  rw [run_callFunc_extern Tryd.func41 (by kernel_rfl) (by kernel_rfl) (by kernel_rfl) (e := Extern.MapsClone.clone) (by kernel_rfl), run_maps_clone_sl w 30 hb]
  simp only [Result.andThen]
  rw [Oper.upon_value]
  go_wp2
  rw [run_typeAssert_map_sl _ 30 _ _ _ _ map_under]
  simp only [Result.andThen]
  rw [Oper.upon_value]
  go_wp2
  go_ret
  exact ⟨rfl, rfl⟩
set_option maxRecDepth 100000 in
theorem mapclone_none (w : World) : Calls Tryd.prog 27 #[.map none] w fun e w' => e = .returned (.map none) ∧ w' = w := by
  have hq := fun W => run_eql_map_nil_sl (P := Tryd.prog) W 30 _ _ none map_under
  go_enter Tryd.func27, Tryd.ntmps27
  go_wp2
  go_ret
  exact ⟨rfl, rfl⟩
theorem mapclone_any (w : World) (m : Option Nat) (l : List TSp) (h : MapO w m l) :
    Calls Tryd.prog 27 #[.map m] w fun e w' => ∃ m', e = .returned (.map m') ∧ MapO w' m' l ∧ (∀ b, m' = some b → w.heap.size ≤ b) ∧ Below w.heap.size w w' := by
  cases m with
  | none =>
    refine (mapclone_none w).mono ?_
    rintro e w' ⟨rfl, rfl⟩
    exact ⟨none, rfl, h, fun b e => (by cases e), Below.refl _ _⟩
  | some b =>
    obtain ⟨es, clock, hb, h2⟩ := (show MapAt w b l from h)
    refine (mapclone_some b es clock w hb).mono ?_
    rintro e w' ⟨rfl, rfl⟩
    exact ⟨some w.heap.size, rfl, ⟨es, clock, heap_alloc_new w _, h2⟩, fun b e => (by cases e; exact Nat.le_refl _), (Below.refl _ _).alloc (Nat.le_refl _) _⟩
set_option maxRecDepth 100000 in
theorem setclone_any (w : World) (a : Nat) (m : Option Nat) (l : List TSp) (h : SetAt w a m l) :
    Calls Tryd.prog 8 #[.pointer (some ⟨a, 0, none⟩)] w fun e w' => ∃ a' m', e = .returned (.pointer (some ⟨a', 0, none⟩)) ∧ SetAt w' a' m' l ∧ w.heap.size ≤ a' ∧ (∀ b, m' = some b → w.heap.size ≤ b) ∧ Below w.heap.size w w' := by
  have c0 := h.cell
  have HM := Lib.hid h.map
  clear h
  go_enter Tryd.func8, Tryd.ntmps8
  go_wp2_with fail
  refine (mapclone_any w m l HM.out).mono ?_
  rintro e w1 ⟨m1, rfl, h1, h2, h3⟩
  have H1 := Lib.hid h1
  have H2 := Lib.hid h2
  have H3 := Lib.hid h3
  clear h1 h2 h3 c0
  go_wp2_with fail
  go_ret
  have hb := (Below.refl w1.heap.size w1).alloc (Nat.le_refl _) (.cells #[.map m1] 32 (0, 0))
  exact ⟨w1.heap.size, m1, rfl, ⟨heap_alloc_new w1 _, H1.out.kps (F := fun _ => True) (Kps.new hb) (fun _ _ => trivial)⟩, H3.out.size, H2.out, H3.out.trans (hb.mono H3.out.size)⟩
end Go.Proofs.YtlmfchcafhidoaaDoor.Sha

/-
  The statements' own order of digests, LessHash. Nothing that was there turns. Condition: digests of 32 bytes.
-/
namespace Go.Proofs.YtlmfchcafhidoaaDoor.Sha
open Go Go.RowKit
theorem lessL_at : ∀ (k : Nat) (l m : List UInt8), (∀ j, j < k → l.getD j 0 = m.getD j 0) → k < l.length → k < m.length → l.getD k 0 ≠ m.getD k 0 → lessL l m = decide (l.getD k 0 < m.getD k 0)
  | 0, x :: l, y :: m, _, _, _, h => by
    have h' : x ≠ y := h
    rw [less_cons, decide_eq_false h']
    simp
  | k + 1, x :: l, y :: m, hp, hl, hm, h => by
    have h0 : x = y := hp 0 (by omega)
    subst h0
    rw [less_cons, lessL_at k l m (fun j hj => hp (j + 1) (by omega)) (by simpa using hl) (by simpa using hm) h]
    simp
def LsInv (x y : List UInt8) (w : World) (i : Value) (wr : World) : Prop :=
  ∃ k : Nat, k ≤ 32 ∧ i = .int .i64 k ∧ (∀ j, j < k → x.getD j 0 = y.getD j 0) ∧ wr.heap[w.heap.size]? = some (.cells (x.map bV).toArray 24 (0, 0)) ∧ wr.heap[w.heap.size + 1]? = some (.cells (y.map bV).toArray 24 (0, 0)) ∧ Below w.heap.size w wr
theorem bv_lt (x y : UInt8) : decide (bv x < bv y) = decide (x < y) := by
  unfold bv
  by_cases h : x < y
  · rw [decide_eq_true h, decide_eq_true (by rw [UInt8.lt_iff_toNat_lt] at h; omega)]
  · rw [decide_eq_false h, decide_eq_false (by rw [UInt8.lt_iff_toNat_lt] at h; omega)]
set_option maxRecDepth 100000 in
theorem ref_less (x y : List UInt8) (hx : x.length = 32) (hy : y.length = 32) (w : World) :
    Calls Tryd.prog 40 #[.agg (x.map bV).toArray, .agg (y.map bV).toArray] w (SmPost (lessL x y) w) := by
  have HX := Lib.hid hx
  have HY := Lib.hid hy
  clear hx hy
  go_enter Tryd.func40, Tryd.ntmps40
  go_wp2_with fail
  go_loopw [5] (fun i wr => LsInv x y w i wr) (fun i _ => 32 - (intOf i).toNat)
  case atStart => exact ⟨0, by omega, rfl, fun j hj => by omega, heap_alloc2_old _ _ _, heap_alloc2_new _ _ _, ((Below.refl _ _).alloc (Nat.le_refl _) _).alloc (by simp) _⟩
  case round =>
    obtain ⟨k, hk, rfl, he, h1, h2, hb⟩ := hrel
    have H1 := Lib.hid h1
    have H2 := Lib.hid h2
    have HE := Lib.hid he
    have HB := Lib.hid hb
    by_cases hlt : k < 32
    · obtain ⟨a, ha⟩ : ∃ a, a = x.getD k 0 := ⟨_, rfl⟩
      obtain ⟨b, hb2⟩ : ∃ b, b = y.getD k 0 := ⟨_, rfl⟩
      have c1 : wr.cell? ⟨w.heap.size, k, none⟩ = some (.int .u8 (bv a)) := by rw [cell_of_row _ _ _ _ _ _ h1, bV_get _ _ (by rw [HX.out]; exact hlt), ha]
      have c2 : wr.cell? ⟨w.heap.size + 1, k, none⟩ = some (.int .u8 (bv b)) := by rw [cell_of_row _ _ _ _ _ _ h2, bV_get _ _ (by rw [HY.out]; exact hlt), hb2]
      have p0 : 0 ≤ (k : Int) := by omega
      have q0 : (k : Int) < 32 := by omega
      have HA := Lib.hid ha
      have HB2 := Lib.hid hb2
      clear h1 h2 he hb ha hb2
      by_cases hab : a = b
      · have ht : (bv a == bv b) = true := by rw [bv_beq, decide_eq_true hab]
        have ht' : (bv a != bv b) = false := by simp [bne, ht]
        have HAB := Lib.hid hab
        clear hab
        go_wp2_with fail
        go_quiet (fail)
        go_wp2_with fail
        go_roundw
        case rel =>
          refine ⟨k + 1, by omega, by go_num, fun j hj => ?_, H1.out, H2.out, below_drewN HB.out _⟩
          by_cases hj2 : j < k
          · exact HE.out j hj2
          · obtain rfl : j = k := by omega
            rw [← HA.out, ← HB2.out, HAB.out]
        case measure => simp [intOf]; omega
      · have ht : (bv a == bv b) = false := by rw [bv_beq, decide_eq_false hab]
        have ht' : (bv a != bv b) = true := by simp [bne, ht]
        have hless : lessL x y = decide (a < b) := by
          have h := lessL_at k x y HE.out (by rw [HX.out]; exact hlt) (by rw [HY.out]; exact hlt) (by rw [← HA.out, ← HB2.out]; exact hab)
          rw [← HA.out, ← HB2.out] at h
          exact h
        have HLS := Lib.hid hless
        clear hab hless
        go_wp2_with fail
        go_quiet (fail)
        go_wp2_with fail
        generalize hwk : World.drewN _ _ = wk
        have d1 : wk.cell? ⟨w.heap.size, k, none⟩ = some (.int .u8 (bv a)) := by rw [← hwk]; exact c1
        have d2 : wk.cell? ⟨w.heap.size + 1, k, none⟩ = some (.int .u8 (bv b)) := by rw [← hwk]; exact c2
        have HW := Lib.hid (show Below w.heap.size w wk by rw [← hwk]; exact below_drewN HB.out _)
        clear hwk c1 c2
        go_quiet (fail)
        go_wp2_with fail
        go_ret
        exact ⟨by rw [HLS.out, ← bv_lt]; rfl, below_drewN HW.out _⟩
    · have hge : ¬ (k : Int) < 32 := by omega
      have hxy : x = y := list_eq_of HX.out HY.out (fun j hj => he j (by omega))
      have HXY := Lib.hid hxy
      clear h1 h2 he hb hxy
      go_wp2_with fail
      go_ret
      exact ⟨by rw [HXY.out, less_self]; rfl, HB.out⟩
end Go.Proofs.YtlmfchcafhidoaaDoor.Sha

/-
  The statements' own order of places. Nothing that was there turns. Condition: digests of 32 bytes.
-/
namespace Go.Proofs.YtlmfchcafhidoaaDoor.Sha
open Go Go.RowKit
set_option maxRecDepth 100000 in
theorem rlesspt_any (h h' : List UInt8) (n n' : Nat) (hh : h.length = 32) (hh' : h'.length = 32) (b : Bool) (hb : b = lessPt h n h' n') (w : World) :
    Calls Tryd.prog 26 #[.agg (ptL h n).toArray, .agg (ptL h' n').toArray] w fun e w' => e = .returned (.bool b) ∧ Below w.heap.size w w' := by
  have hl : (h.map bV).length = 32 := by simp [hh]
  have hl' : (h'.map bV).length = 32 := by simp [hh']
  have HL := Lib.hid hl
  have HL' := Lib.hid hl'
  have HH := Lib.hid hh
  have HH' := Lib.hid hh'
  have HB := Lib.hid hb
  clear hl hl' hh hh' hb
  go_enter Tryd.func26, Tryd.ntmps26
  go_upto_region 1 with fail
  obtain ⟨B, F, F'⟩ := pt_boxes w h h' n n' 27
  generalize hw1 : World.alloc _ _ = w1
  rw [hw1] at B F F'
  have B := Lib.hid B
  have F := Lib.hid F
  have F' := Lib.hid F'
  clear hw1
  go_wp2_with ((with_reducible show wpList _ _ _ _ _ _); first | (refine wpList_load_mid rfl 24 (.tmp 5) rfl w.heap.size 0 rfl (h.map bV) _ (pt_hash F.out) Tryd.underlying24 rfl (by rw [HL.out]; kernel_rfl) ?_; go_frame) | (refine wpList_load_mid rfl 24 (.tmp 7) rfl (w.heap.size + 1) 0 rfl (h'.map bV) _ (pt_hash F'.out) Tryd.underlying24 rfl (by rw [HL'.out]; kernel_rfl) ?_; go_frame))
  refine (same_b h h' HH.out HH'.out _ rfl _).mono ?_
  rintro e w2 ⟨rfl, hb2⟩
  have c : w2.cell? ⟨w.heap.size, 32, none⟩ = some (.int .u32 (n : Int)) := pt_num HH.out (row_below F.out hb2)
  have c' : w2.cell? ⟨w.heap.size + 1, 32, none⟩ = some (.int .u32 (n' : Int)) := pt_num HH'.out (row_below F'.out hb2)
  have B2 := Lib.hid (B.out.trans (hb2.mono B.out.size))
  have F2 := Lib.hid (row_below F.out hb2)
  have F2' := Lib.hid (row_below F'.out hb2)
  clear hb2 F F' B
  by_cases he : h = h'
  · rw [decide_eq_true he]
    have HE := Lib.hid he
    clear he
    go_wp2_with fail
    go_ret
    exact ⟨by rw [HB.out, lessPt, if_pos HE.out]; congr 2, B2.out⟩
  · rw [decide_eq_false he]
    have HE := Lib.hid he
    clear he c c'
    go_wp2_with ((with_reducible show wpList _ _ _ _ _ _); first | (refine wpList_load_mid rfl 24 (.tmp 15) rfl w.heap.size 0 rfl (h.map bV) _ (pt_hash F2.out) Tryd.underlying24 rfl (by rw [HL.out]; kernel_rfl) ?_; go_frame) | (refine wpList_load_mid rfl 24 (.tmp 17) rfl (w.heap.size + 1) 0 rfl (h'.map bV) _ (pt_hash F2'.out) Tryd.underlying24 rfl (by rw [HL'.out]; kernel_rfl) ?_; go_frame))
    refine (ref_less h h' HH.out HH'.out _).mono ?_
    rintro e w3 ⟨rfl, hb3⟩
    have B3 := Lib.hid (B2.out.trans (hb3.mono B2.out.size))
    clear hb3
    go_wp2_with fail
    go_ret
    exact ⟨by rw [HB.out, lessPt, if_neg HE.out]; rfl, B3.out⟩
end Go.Proofs.YtlmfchcafhidoaaDoor.Sha
