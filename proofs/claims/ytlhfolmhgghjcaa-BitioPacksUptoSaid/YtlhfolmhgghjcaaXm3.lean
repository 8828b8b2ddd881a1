/- Towards the laws of this seat: contracts of the program's functions in a logic over a small machine (texts XPl). No condition. -/
import Derived.Test.YtlhfolmhgghjcaaXm2
/- N -/
namespace Go.Proofs.Ytlhfolmhgghjcaa
open Go.Wvm Bits
set_option linter.unusedVariables false
set_option linter.unusedSimpArgs false

/-- To a slice that owns its whole block, an empty one included, whatever is told of the block. -/
theorem appendOwn {P : Program} {vp : VP} {T : List (Nat × TyI)} (hT : TyOk vp T) {ro : Nat} {E : En} {M : AM} {t1 t2 e : TypeId} {x y : Operand} {b m s by' n : Nat} {tt tt' : Option (TypeId × Nat)} {z : Option Value} {g : Bool} {ei ti2 : TyI} {u : Value} {l new : List Value} (hx : evE E x = some (.slice (some ⟨b, 0, none⟩) m m)) (hy : evE E y = some u)
    (hb : M.get b = some (.row l ei.size tt)) (hm : l.length = m * ei.size) (hr : ro ≤ b) (hkt : keepTy tt e (Nat.blt 0 m) = tt') (hko : keepOk tt tt' (m * ei.size) = true)
    (ht : tyGet T t1 = some ⟨.slice e, s, by', z, g⟩) (ht2 : tyGet T t2 = some ti2) (he : tyGet T e = some ei) (hl : lenable ti2.desc = true) (hs : Src M ei.size u n new) (hn0 : 0 < n) (hn : m + n ≤ 1073741824) (hlen : new.length = n * ei.size)
    (hok : (Nat.ble ei.bytes 65536 && !Nat.beq ei.bytes 0 && !Nat.beq ei.size 0 && ei.zero.isSome) = true) (h1 : oneCells new = true) :
    Op1 P vp ro E M (.call { callee := .builtin .append, args := #[x, y], argTypes := #[t1, t2] }) (.value (.slice (some ⟨M.next, 0, none⟩) (m + n) (m + n))) ((M.rm b).add (.row (l ++ new) ei.size tt')) := by
  refine Op1.app hx hy _ fun w hM => ?_
  obtain ⟨q1, q2⟩ := hs
  have q3 := q2 ro w hM n (Nat.le_refl _)
  rw [← hlen, List.take_length] at q3
  obtain ⟨c, dv, hw, hc⟩ := hM.row hb
  have b1 : Nat.ble (m + n) m = false := by
    cases hb : Nat.ble (m + n) m with
    | false => rfl
    | true => have := Nat.le_of_ble_eq_true hb; omega
  simp only [Bool.and_eq_true] at hok
  have b2 : (Nat.ble (m + n) small && Nat.ble ei.bytes 65536 && !Nat.beq ei.bytes 0 && !Nat.beq ei.size 0 && oneCells new && ei.zero.isSome && Nat.beq new.length (n * ei.size)) = true := by
    rw [Nat.ble_eq_true_of_le (show m + n ≤ small by unfold small; omega), hok.1.1.1, hok.1.1.2, hok.1.2, hok.2, h1, hlen, Nat.beq_refl]; rfl
  have b3 : keepTy tt e (Nat.beq 0 0 && Nat.blt 0 m) = tt' := hkt
  have b5 : (Nat.beq 0 0 && Nat.beq l.length (m * ei.size) && holds l.length c dv 0 l.length) = true := by
    rw [hm, Nat.beq_refl, Nat.beq_refl, ← hm, cells_holds hc _ _ (by omega)]; rfl
  have b6 : (Nat.beq ei.size ei.size && keepOk tt tt' (m * ei.size)) = true := by rw [Nat.beq_refl, hko]; rfl
  have hr' := Nat.ble_eq_true_of_le hr
  have key : Abs ro (VW.add { w with heap := w.heap.del b } (.cells ((m + n) * ei.size) (c.putL l.length new) dv ei.size tt')) ((M.rm b).add (.row (l ++ new) ei.size tt')) := by
    refine (hM.rm b).add ⟨_, _, _, rfl, by rw [List.length_append, hlen, hm, Nat.add_mul], fun i v hv => ?_⟩
    rw [cellAt_putA]
    have hi : i < l.length + new.length := by
      rcases Nat.lt_or_ge i (l ++ new).length with h | h
      · simpa using h
      · rw [List.getElem?_eq_none h] at hv; cases hv
    have hd : (m + n) * ei.size = l.length + new.length := by rw [hlen, hm, Nat.add_mul]
    rw [hd]
    by_cases h : l.length ≤ i
    · rw [if_pos ⟨h, hi, hi⟩]
      rw [List.getElem?_append_right h] at hv; exact hv
    · rw [if_neg (fun k => h k.1)]
      rw [List.getElem?_append_left (by omega)] at hv
      have := hc i v hv
      unfold cellAt at this ⊢
      rw [blt_eq] at this ⊢
      rw [decide_eq_true (show i < l.length by omega)] at this
      rw [decide_eq_true hi]
      exact this
  refine ⟨_, ?_, key⟩
  simp only [appendV, hT _ _ ht, hT _ _ ht2, hT _ _ he, hl, q1, q3, b1, b2, hw, hr', b3, b5, b6]
  simp [VW.add, hM.next]

theorem packB_append (a b : List Nat) (n : Nat) : packB (a ++ b) n = packB a n ++ packB b n := by simp [packB]
theorem packB_at (l : List Nat) (n i : Nat) (h : i < l.length) : midT (txt (packB l n)) (i * n) n = ofN (l[i]'h) n := by
  have e : packB l n = packB (l.take i) n ++ (ofN (l[i]'h) n ++ packB (l.drop (i + 1)) n) := by
    have h1 := packB_append (l.take i) (l.drop i) n
    rw [List.take_append_drop] at h1
    have h2 : ∀ (x : Nat) (r : List Nat), packB (x :: r) n = ofN x n ++ packB r n := fun x r => by simp [packB]
    rw [h1, List.drop_eq_getElem_cons h, h2]
  have hl : (packB (l.take i) n).length = i * n := by rw [packB_length, List.length_take]; congr 1; omega
  have hn := packB_length l n
  have hle : i * n + n ≤ (packB l n).length := by
    have := Nat.mul_le_mul_right n (Nat.succ_le_of_lt h)
    rw [Nat.succ_mul] at this; omega
  rw [midT_txt _ _ _ hle, e, ← hl, List.drop_left]
  rw [List.take_append_of_le_length (by rw [ofN_length]; exact Nat.le_refl _), List.take_of_length_le (by rw [ofN_length]; exact Nat.le_refl _)]
/-- What was packed is unpacked. -/
theorem unpack_pack {l : List Nat} {n : Int} (hp : (packS l n).2 = 0) (hl : l.length ≤ 1048576) : unpackS (packS l n).1 n (l.length : Int) = (l, 0) := by
  unfold packS at hp ⊢
  split at hp
  · cases hp
  · rename_i hn
    rw [if_neg hn]
    split at hp
    · rename_i hall
      rw [if_pos hall]
      obtain ⟨m, rfl⟩ : ∃ m : Nat, n = m := ⟨n.toNat, by omega⟩
      obtain ⟨hd1, hd2⟩ := max_div (n := m) (by omega) (by omega)
      rw [Int.toNat_natCast] at hall ⊢
      unfold unpackS
      rw [Int.toNat_natCast, Int.toNat_natCast]
      have hlen := packB_length l m
      have htl := txt_length (packB l m)
      rw [if_neg (by omega)]
      rw [if_neg (by rintro (h | h); omega; exact h (by rw [htl, hlen]))]
      have hr : valB (midT (txt (packB l m)) (l.length * m) (8 * (txt (packB l m)).length - l.length * m)) = 0 := by
        rw [← hlen]
        exact midT_rest _ _ (by rw [htl]; omega)
      rw [if_neg (fun k => k hr)]
      have hu : unpL (txt (packB l m)) m l.length = l := by
        apply List.ext_getElem
        · rw [unpL_length]
        · intro i h1 h2
          have h3 := packB_at l m i h2
          have h4 := of_decide_eq_true (List.all_eq_true.1 hall _ (List.getElem_mem h2))
          simp only [unpL, List.getElem_map, List.getElem_range]
          rw [h3, valB_ofN, Nat.mod_eq_of_lt h4]
      rw [hu]
    · cases hp
theorem packS_length {l : List Nat} {n : Int} (hl : l.length ≤ 1048576) : (packS l n).1.length ≤ 16777216 := by
  unfold packS
  split
  · exact Nat.zero_le _
  · split
    · have h1 := txt_length (packB l n.toNat)
      have h2 := packB_length l n.toNat
      have h3 := mul_bd (i := l.length) (m := l.length) (n := n.toNat) (Nat.le_refl _) hl (by omega)
      show (txt (packB l n.toNat)).length ≤ _
      omega
    · exact Nat.zero_le _
theorem unpackS_length {s : List UInt8} {n k : Int} (hs : s.length ≤ 1048576) : (unpackS s n k).1.length ≤ 1073741824 := by
  unfold unpackS
  split
  · exact Nat.zero_le _
  · split
    · exact Nat.zero_le _
    · rename_i h1 h2
      split
      · exact Nat.zero_le _
      · show (unpL s n.toNat k.toNat).length ≤ _
        rw [unpL_length]
        have : 134217728 / n.toNat ≤ 134217728 := Nat.div_le_self _ _
        omega
theorem u64_one (l : List Nat) : oneCells (l.map u64v) = true := by
  induction l with
  | nil => rfl
  | cons b l ih => simpa [oneCells] using ih
/-- An operation that hangs on one that was not done is not done. -/
theorem skipU {ro : Nat} {F : FX} {all os : List Oper} {E : En} {M : AM} {Q : En → AM → Prop} {d j d' : Nat} {want : Bool} {op : Op} {ty : TypeId} {pos : String} {after : Array Edge} {p : Oper} (hp : all[j]? = some p) (hd' : p.dst = some d') (hc : enGet E d' = some undef) (hd : Nat.blt d F.nt = true)
    (h : Sq Try.prog tables ro F all os ((d, undef) :: E) M Q) : Sq Try.prog tables ro F all (⟨some d, op, ty, pos, after, some (j, want)⟩ :: os) E M Q := by
  intro i hi tm w hE hM
  obtain ⟨ho, hr⟩ := drop_cons hi
  obtain ⟨E', M', tm', w', q1, q2, q3, q4⟩ := h (i + 1) hr (putT F.nt tm (some d) undef) w (hE.put hd undef) hM
  refine ⟨E', M', tm', w', q1, q2, q3, fun k ds kind cs => .trans (leads_step ok hm ?_) (q4 k ds kind cs)⟩
  have hwv : wantedV ⟨some d, op, ty, pos, after, some (j, want)⟩ all tm = false := by
    simp only [wantedV, hp, hd', hE _ _ hc, undef]
  simp only [List.length_cons, rangeL, bigF, stepF, opF, ho, hwv, nextF]
theorem awake1_ok {ro : Nat} {M : AM} : FnC Try.prog tables ro 13 [] M (fun v M' => v = .bool true ∧ M' = M) :=
  FnC.closed ok hm (fuel := 100000) (by kernel_rfl)
theorem inV_sl (nil : Bool) (n : Nat) (h : nil = true → n = 0) : ∃ b cap, inV nil 0 n = .slice b n cap ∧ (n ≠ 0 → b = some ⟨0, 0, none⟩) := by
  cases nil with
  | true => obtain rfl := h rfl; exact ⟨none, 0, rfl, fun k => absurd rfl k⟩
  | false => exact ⟨some ⟨0, 0, none⟩, n, rfl, fun _ => rfl⟩

set_option maxHeartbeats 16000000 in
theorem packs_ok {M : AM} (l : List Nat) (s : List UInt8) {n k : Int} (nil : Bool) (hnil : nil = true → l.length = 0) (hnx : M.next = 1) (hrow : l.length ≠ 0 → M.get 0 = some (.row (l.map u64v) 1 none))
    (hv : ∀ i (h : i < l.length), l[i]'h < 2 ^ 64) (hn : InR .i64 n) (hk : InR .i64 k) (hs : s.length ≤ 1048576) (hl : l.length ≤ 1048576) :
    FnC Try.prog tables 1 3 [inV nil 0 l.length, .string ⟨⟨s⟩⟩, .agg ⟨[.int .i64 n, .int .i64 k]⟩] M (fun v _ => v = .bool true) := by
  obtain ⟨b0, cap0, hiv, hb0⟩ := inV_sl nil l.length hnil
  rw [hiv]
  have hS0 : ∀ M', (l.length ≠ 0 → M'.get 0 = some (.row (l.map u64v) 1 none)) → SlU M' 0 b0 l := fun M' h hne => by
    have h0 : l.length ≠ 0 := fun e => hne (List.length_eq_zero_iff.1 e)
    rw [hb0 h0]
    exact slU_row (h h0) hne
  refine FnC.body (nt := 116) ok hm fn3 rfl rfl ?_
  (repeat (first
    | refine Ex.seq ok hm ?_
    | refine Ex.region ok hm ?_))
  refine Sq.op ok hm Want.none (Op1.box rfl rfl) rfl ?_
  have hB1 : (M.add (.row [.int .i64 n, .int .i64 k] 0 (some (24, 0)))).get 1 = some (.row [.int .i64 n, .int .i64 k] 0 (some (24, 0))) := by rw [← hnx]; exact AM.add_same
  have hg1 : l.length ≠ 0 → (M.add (.row [.int .i64 n, .int .i64 k] 0 (some (24, 0)))).get 0 = some (.row (l.map u64v) 1 none) := fun h => (AM.add_ne (by omega)).trans (hrow h)
  have hn1 : (M.add (.row [.int .i64 n, .int .i64 k] 0 (some (24, 0)))).next = 2 := by simp only [AM.next_add]; omega
  rw [hnx]
  show Sq Try.prog tables 1 ⟨3, 116⟩ _ _ _ (M.add (.row [.int .i64 n, .int .i64 k] 0 (some (24, 0)))) _
  generalize (M.add (.row [.int .i64 n, .int .i64 k] 0 (some (24, 0)))) = M1 at hB1 hg1 hn1 ⊢
  (repeat (refine Sq.pu ok hm Want.none (by exact Pu.assign rfl) rfl ?_))
  refine Sq.finH (n := 12) ok hm (by repeat (first
    | exact Keep.nil
    | apply Keep.keep rfl)) ?_
  refine Ex.seq ok hm ?_
  refine Ex.cut [(7, .int .i64 n), (5, .pointer (some ⟨1, 0, none⟩)), (0, .slice b0 l.length cap0), (1, .string ⟨⟨s⟩⟩)] (fun M' => M' = M1) ?_ ?_
  · (repeat (first
    | refine Ex.region ok hm ?_
    | refine Sq.pu ok hm Want.none (by first
    | exact Pu.assign rfl
    | exact Pu.fieldAddr hT rfl rfl rfl rfl rfl
    | (apply Pu.load hT rfl rfl rfl; (focus ((repeat (assumption)))); (focus rfl))) rfl ?_
    | refine Sq.finH (n := 12) ok hm (by repeat (first
    | exact Keep.nil
    | apply Keep.drop rfl
    | apply Keep.keep rfl)) ?_))
    exact ⟨rfl, ⟨rfl, rfl, rfl, rfl, trivial⟩, rfl⟩
  rintro M1 rfl
  refine Ex.seq ok hm ?_
  refine Ex.cut [(8, .int .i64 k), (7, .int .i64 n), (0, .slice b0 l.length cap0), (1, .string ⟨⟨s⟩⟩)] (fun M' => M' = M1) ?_ ?_
  · (repeat (first
    | refine Ex.region ok hm ?_
    | refine Sq.pu ok hm Want.none (by first
    | exact Pu.assign rfl
    | exact Pu.fieldAddr hT rfl rfl rfl rfl rfl
    | (apply Pu.load hT rfl rfl rfl; (focus ((repeat (assumption)))); (focus rfl))) rfl ?_
    | refine Sq.finH (n := 12) ok hm (by repeat (first
    | exact Keep.nil
    | apply Keep.drop rfl
    | apply Keep.keep rfl)) ?_))
    exact ⟨rfl, ⟨rfl, rfl, rfl, rfl, trivial⟩, rfl⟩
  rintro M1 rfl
  refine Ex.seq ok hm ?_
  refine Ex.cut [(9, .slice (some ⟨if l.length = 0 then 4 else 5, 0, none⟩) (l.length + 1) (l.length + 1)), (8, .int .i64 k), (7, .int .i64 n), (0, .slice b0 l.length cap0), (1, .string ⟨⟨s⟩⟩)]
    (fun M' => (l.length ≠ 0 → M'.get 0 = some (.row (l.map u64v) 1 none)) ∧ M'.get (if l.length = 0 then 4 else 5) = some (.row (l.map u64v ++ [.int .u64 77]) 1 none) ∧ 6 ≤ M'.next + 1) ?_ ?_
  · refine Ex.region ok hm ?_
    refine Sq.op ok hm Want.none (Op1.buildSlice hT rfl rfl rfl rfl rfl rfl rfl) rfl ?_
    rw [hn1]
    have hB2 : (M1.add (.row [] 1 (some (25, 0)))).get 2 = some (.row [] 1 (some (25, 0))) := by rw [← hn1]; exact AM.add_same
    have hg2 : l.length ≠ 0 → (M1.add (.row [] 1 (some (25, 0)))).get 0 = some (.row (l.map u64v) 1 none) := fun h => (AM.add_ne (by omega)).trans (hg1 h)
    have hn2 : (M1.add (.row [] 1 (some (25, 0)))).next = 3 := by simp only [AM.next_add]; omega
    show Sq Try.prog tables 1 _ _ _ _ (M1.add (.row [] 1 (some (25, 0)))) _
    generalize (M1.add (.row [] 1 (some (25, 0)))) = M2 at hB2 hg2 hn2 ⊢
    by_cases hz : l.length = 0
    · rw [if_pos hz]
      have hl0 : l = [] := List.length_eq_zero_iff.1 hz
      subst hl0
      refine Sq.pu ok hm Want.none (Pu.move rfl) rfl ?_
      refine Sq.op ok hm Want.none (Op1.appendNone hT rfl rfl (Nat.le_refl _) rfl rfl rfl rfl Src.zero) rfl ?_
      refine Sq.op ok hm Want.none (Op1.buildSlice hT rfl rfl rfl rfl rfl rfl rfl) rfl ?_
      rw [hn2]
      have hB3 : (M2.add (.row [.int .u64 77] 1 (some (25, 0)))).get 3 = some (.row [.int .u64 77] 1 (some (25, 0))) := by rw [← hn2]; exact AM.add_same
      have hC3 : (M2.add (.row [.int .u64 77] 1 (some (25, 0)))).get 2 = some (.row [] 1 (some (25, 0))) := (AM.add_ne (by omega)).trans hB2
      have hn3 : (M2.add (.row [.int .u64 77] 1 (some (25, 0)))).next = 4 := by simp only [AM.next_add]; omega
      show Sq Try.prog tables 1 _ _ _ _ (M2.add (.row [.int .u64 77] 1 (some (25, 0)))) _
      generalize (M2.add (.row [.int .u64 77] 1 (some (25, 0)))) = M3 at hB3 hC3 hn3 ⊢
      refine Sq.op ok hm Want.none (appendOwn (tt' := none) hT rfl rfl hC3 rfl (by decide) rfl rfl rfl rfl rfl rfl (Src.slice (n := 1) hB3 (Nat.le_of_ble_eq_true rfl)) (by decide) (by decide) rfl rfl rfl) rfl ?_
      rw [hn3]
      refine Sq.pu ok hm Want.none (Pu.assign rfl) rfl ?_
      refine Sq.finH (n := 12) ok hm (by repeat (first
    | exact Keep.nil
    | apply Keep.drop rfl
    | apply Keep.keep rfl)) ?_
      refine ⟨rfl, ⟨rfl, rfl, rfl, rfl, rfl, trivial⟩, fun h => absurd rfl h, ?_, by simp only [AM.next_add, AM.next_rm]; omega⟩
      rw [← hn3]
      exact AM.add_same
    · rw [if_neg hz]
      have hsrc : Src M2 1 (.slice b0 l.length cap0) l.length (l.map u64v) := by
        rw [hb0 hz]
        have := Src.slice (size := 1) (o := 0) (n := l.length) (c := cap0) (hg2 hz) (by rw [List.length_map]; omega)
        rwa [List.drop_zero, Nat.mul_one, List.take_of_length_le (by rw [List.length_map]; exact Nat.le_refl _)] at this
      refine Sq.pu ok hm Want.none (Pu.move rfl) rfl ?_
      refine Sq.op ok hm Want.none (appendOwn (tt' := none) hT rfl rfl hB2 rfl (by decide) rfl rfl rfl rfl rfl rfl hsrc (by omega) (by omega) (by rw [List.length_map]; exact (Nat.mul_one _).symm) rfl (u64_one l)) rfl ?_
      rw [hn2, Nat.zero_add]
      have hB3 : ((M2.rm 2).add (.row ([] ++ l.map u64v) 1 none)).get 3 = some (.row (l.map u64v) 1 none) := by rw [← hn2]; exact AM.add_same
      have hg3 : ((M2.rm 2).add (.row ([] ++ l.map u64v) 1 none)).get 0 = some (.row (l.map u64v) 1 none) := (AM.add_ne (by simp only [AM.next_rm]; omega)).trans ((AM.rm_ne (by omega)).trans (hg2 hz))
      have hn3 : ((M2.rm 2).add (.row ([] ++ l.map u64v) 1 none)).next = 4 := by simp only [AM.next_add, AM.next_rm]; omega
      show Sq Try.prog tables 1 _ _ _ _ ((M2.rm 2).add (.row ([] ++ l.map u64v) 1 none)) _
      generalize ((M2.rm 2).add (.row ([] ++ l.map u64v) 1 none)) = M3 at hB3 hg3 hn3 ⊢
      refine Sq.op ok hm Want.none (Op1.buildSlice hT rfl rfl rfl rfl rfl rfl rfl) rfl ?_
      rw [hn3]
      have hB4 : (M3.add (.row [.int .u64 77] 1 (some (25, 0)))).get 4 = some (.row [.int .u64 77] 1 (some (25, 0))) := by rw [← hn3]; exact AM.add_same
      have hC4 : (M3.add (.row [.int .u64 77] 1 (some (25, 0)))).get 3 = some (.row (l.map u64v) 1 none) := (AM.add_ne (by omega)).trans hB3
      have hg4 : (M3.add (.row [.int .u64 77] 1 (some (25, 0)))).get 0 = some (.row (l.map u64v) 1 none) := (AM.add_ne (by omega)).trans hg3
      have hn4 : (M3.add (.row [.int .u64 77] 1 (some (25, 0)))).next = 5 := by simp only [AM.next_add]; omega
      show Sq Try.prog tables 1 _ _ _ _ (M3.add (.row [.int .u64 77] 1 (some (25, 0)))) _
      generalize (M3.add (.row [.int .u64 77] 1 (some (25, 0)))) = M4 at hB4 hC4 hg4 hn4 ⊢
      refine Sq.op ok hm Want.none (appendOwn (tt := none) (tt' := none) hT rfl rfl hC4 (by rw [List.length_map]; exact (Nat.mul_one _).symm) (by decide) rfl rfl rfl rfl rfl rfl (Src.slice (n := 1) hB4 (Nat.le_of_ble_eq_true rfl)) (by decide) (by omega) rfl rfl rfl) rfl ?_
      rw [hn4]
      refine Sq.pu ok hm Want.none (Pu.assign rfl) rfl ?_
      refine Sq.finH (n := 12) ok hm (by repeat (first
    | exact Keep.nil
    | apply Keep.drop rfl
    | apply Keep.keep rfl)) ?_
      refine ⟨rfl, ⟨rfl, rfl, rfl, rfl, rfl, trivial⟩, fun _ => (AM.add_ne (by simp only [AM.next_rm]; omega)).trans ((AM.rm_ne (by omega)).trans hg4), ?_, by simp only [AM.next_add, AM.next_rm]; omega⟩
      rw [← hn4]
      exact AM.add_same
  rintro M3 ⟨hg3, hc3, hn3⟩
  obtain ⟨c, hcd⟩ : ∃ c, (if l.length = 0 then 4 else 5) = c := ⟨_, rfl⟩
  rw [hcd] at hc3 ⊢
  have hc4 : 4 ≤ c := by rw [← hcd]; split <;> omega
  clear hcd hB1 hg1 hn1
  refine Ex.facts fun hlt3 hron3 => ?_
  have hcn := hlt3 _ _ hc3
  have hSc : ∀ M', M'.get c = some (.row (l.map u64v ++ [.int .u64 77]) 1 none) → SlU M' c (some ⟨c, 0, none⟩) l := fun M' h hne =>
    ⟨0, _, _, _, rfl, h, fun i hi => by rw [Nat.zero_add, List.getElem?_append_left (by rw [List.length_map]; exact hi), List.getElem?_map, List.getElem?_eq_getElem hi]; rfl⟩
  have hk77 : (l.map u64v ++ [.int .u64 77])[0 + ((l.length : Nat) : Int).toNat * 1]? = some (.int .u64 77) := by
    rw [show 0 + ((l.length : Nat) : Int).toNat * 1 = (l.map u64v).length by rw [List.length_map]; omega, List.getElem?_append_right (Nat.le_refl _), Nat.sub_self]; rfl
  have hup : (packS l n).2 = 0 → l.length ≤ 1048576 → unpackS (packS l n).1 n (l.length : Int) = (l, 0) := unpack_pack
  have hpl := packS_length (l := l) (n := n) hl
  have hul := unpackS_length (s := s) (n := n) (k := k) hs
  (repeat (first
    | refine Ex.seq ok hm ?_
    | refine Ex.region ok hm ?_
    | refine Sq.pu ok hm Want.none (by first
    | exact Pu.move rfl
    | exact Pu.lenL hT rfl rfl) rfl ?_))
  refine Sq.pu ok hm Want.none (Pu.sliceL (lo := none) (vl := none) hT rfl rfl rfl rfl rfl (bounds_nh (by omega) (by omega)) hc3 rfl (by omega)) rfl ?_
  (repeat (refine Sq.pu ok hm Want.none (by exact Pu.move rfl) rfl ?_))
  refine Sq.call ok Want.none (Op1.call rfl rfl fn8) rfl (FnC.mono (Pack_ok (c := c) (cap := l.length + 1) (b := some ⟨c, 0, none⟩) l hn (hSc M3 hc3) hv hl) ?_)
  rintro x M4 ⟨rfl, hF4⟩
  have hn4 := hF4.next
  have hc4' := (hF4.get c hcn (by simp)).trans hc3
  have hg4 : l.length ≠ 0 → M4.get 0 = some (.row (l.map u64v) 1 none) := fun h => (hF4.get 0 (by omega) (by simp)).trans (hg3 h)
  (repeat (first
    | refine Ex.seq ok hm ?_
    | refine Ex.region ok hm ?_
    | refine Sq.pu ok hm Want.none (by first
    | exact Pu.move rfl
    | exact Pu.assign rfl
    | exact Pu.extract rfl rfl) rfl ?_
    | refine Sq.finH (n := 20) ok hm (by repeat (first
    | exact Keep.nil
    | apply Keep.drop rfl
    | apply Keep.keep rfl)) ?_))
  refine Sq.call ok Want.none (Op1.call rfl rfl fn9) rfl (FnC.mono (rPack_ok (c := 0) l hn (hS0 M4 hg4) hv hl) ?_)
  rintro x M5 ⟨rfl, hF5⟩
  have hn5 := hF5.next
  have hc5 := (hF5.get c (by omega) (by simp)).trans hc4'
  have hg5 : l.length ≠ 0 → M5.get 0 = some (.row (l.map u64v) 1 none) := fun h => (hF5.get 0 (by omega) (by simp)).trans (hg4 h)
  obtain ⟨pt, pe, hpk⟩ : ∃ pt pe, packS l n = (pt, pe) := ⟨_, _, rfl⟩
  rw [hpk] at hup hpl ⊢
  clear hg3 hc3 hc4' hg4 hF4 hF5 hrow
  (repeat (first
    | refine Ex.seq ok hm ?_
    | refine Ex.region ok hm ?_
    | refine Sq.pu ok hm Want.none (by first
    | exact Pu.move rfl
    | exact Pu.assign rfl
    | exact Pu.extract rfl rfl) rfl ?_
    | refine Sq.finH (n := 20) ok hm (by repeat (first
    | exact Keep.nil
    | apply Keep.drop rfl
    | apply Keep.keep rfl)) ?_))
  refine Sq.call ok Want.none (Op1.call rfl rfl fn10) rfl (FnC.mono (Unpack_ok s hn hk (by omega)) ?_)
  rintro x M6 ⟨b6, cap6, c6, rfl, hS6, hF6, hc6⟩
  have hn6 := hF6.next
  have hc6' := (hF6.get c (by omega) (by simp)).trans hc5
  have hg6 : l.length ≠ 0 → M6.get 0 = some (.row (l.map u64v) 1 none) := fun h => (hF6.get 0 (by omega) (by simp)).trans (hg5 h)
  obtain ⟨ul, ue, hu⟩ : ∃ ul ue, unpackS s n k = (ul, ue) := ⟨_, _, rfl⟩
  rw [hu] at hS6 hul ⊢
  simp only at hS6 hul
  refine sq_factsB fun hlt6 hron6 => ?_
  have hcl6 := hS6.lt hlt6
  (repeat (first
    | refine Ex.seq ok hm ?_
    | refine Ex.region ok hm ?_
    | refine Sq.pu ok hm Want.none (by first
    | exact Pu.move rfl
    | exact Pu.assign rfl
    | exact Pu.extract rfl rfl) rfl ?_
    | refine Sq.finH (n := 20) ok hm (by repeat (first
    | exact Keep.nil
    | apply Keep.drop rfl
    | apply Keep.keep rfl)) ?_))
  refine Sq.call ok Want.none (Op1.call rfl rfl fn11) rfl (FnC.mono (rUnpack_ok s hn hk hs) ?_)
  rintro x M7 ⟨b7, cap7, c7, rfl, hS7, hF7, hc7⟩
  have hn7 := hF7.next
  rw [hu] at hS7 ⊢
  simp only at hS7
  have hS67 := hS6.keep hF7 (fun h => ⟨hcl6 h, by simp⟩)
  have hc7' := (hF7.get c (by omega) (by simp)).trans hc6'
  have hg7 : l.length ≠ 0 → M7.get 0 = some (.row (l.map u64v) 1 none) := fun h => (hF7.get 0 (by omega) (by simp)).trans (hg6 h)
  clear hc6' hg6 hc5 hg5 hF6 hF7 hlt6 hlt3 hcl6 hS6
  (repeat (first
    | refine Ex.seq ok hm ?_
    | refine Ex.region ok hm ?_
    | refine Sq.pu ok hm Want.none (by first
    | exact Pu.move rfl
    | exact Pu.assign rfl
    | exact Pu.extract rfl rfl
    | exact Pu.neqI rfl rfl
    | exact Pu.neqS rfl rfl
    | exact Pu.pickF rfl (by first
    | rfl
    | (simp; done) | omega) rfl) rfl ?_
    | refine Sq.pu ok hm (by exact Want.yes rfl rfl rfl (by first
    | rfl
    | (simp; done) | omega)) (by first
    | exact Pu.move rfl
    | exact Pu.neqI rfl rfl) rfl ?_
    | refine Sq.finH (n := 20) ok hm (by repeat (first
    | exact Keep.nil
    | apply Keep.drop rfl
    | apply Keep.keep rfl)) ?_))
  refine Sq.call ok (by exact Want.yes rfl rfl rfl (by (simp; done))) (Op1.call rfl rfl fn12) rfl (FnC.mono (same_ok ul ul hS67 hS7 hul hul) ?_)
  rintro x M8 ⟨rfl, rfl⟩
  rw [decide_eq_true (show ul = ul from rfl)]
  (repeat (first
    | refine Sq.pu ok hm Want.none (by first
    | exact Pu.move rfl
    | exact Pu.neqI rfl rfl
    | exact Pu.not rfl
    | exact Pu.lenL hT rfl rfl
    | exact Pu.pickF rfl (by first
    | rfl
    | (simp; done) | omega) rfl) rfl ?_
    | refine Sq.pu ok hm (by exact Want.yes rfl rfl rfl (by first
    | rfl
    | (simp; done) | omega)) (by first
    | exact Pu.move rfl
    | exact Pu.neqI rfl rfl
    | exact Pu.not rfl
    | exact Pu.lenL hT rfl rfl) rfl ?_))
  refine Sq.pu ok hm (by exact Want.yes rfl rfl rfl (by (simp; done))) (Pu.sliceL (lo := none) (vl := none) hT rfl rfl rfl rfl rfl (bounds_nh (by omega) (by omega)) hc7' rfl (by omega)) rfl ?_
  (repeat (refine Sq.pu ok hm (by exact Want.yes rfl rfl rfl (by (simp; done))) (by exact Pu.move rfl) rfl ?_))
  refine Sq.call ok (by exact Want.yes rfl rfl rfl (by (simp; done))) (Op1.call rfl rfl fn12) rfl (FnC.mono (same_ok (b1 := some ⟨c, 0, none⟩) (k1 := l.length + 1) l l (hSc _ hc7') (hS0 _ hg7) (by omega) (by omega)) ?_)
  rintro x M9 ⟨rfl, rfl⟩
  rw [decide_eq_true (show l = l from rfl)]
  (repeat (first
    | refine Sq.pu ok hm Want.none (by first
    | exact Pu.move rfl
    | exact Pu.not rfl
    | exact Pu.lenL hT rfl rfl
    | exact Pu.pickF rfl (by first
    | rfl
    | (simp; done) | omega) rfl
    | exact Pu.indexAddr hT rfl rfl rfl rfl (by omega) (by omega)) rfl ?_
    | refine Sq.pu ok hm (by exact Want.yes rfl rfl rfl (by first
    | rfl
    | (simp; done) | omega)) (by first
    | exact Pu.move rfl
    | exact Pu.not rfl
    | exact Pu.lenL hT rfl rfl
    | exact Pu.indexAddr hT rfl rfl rfl rfl (by omega) (by omega)) rfl ?_))
  refine Sq.pu ok hm (by exact Want.yes rfl rfl rfl (by rfl)) (Pu.load hT rfl rfl rfl hc7' hk77) rfl ?_
  (repeat (first
    | refine Ex.seq ok hm ?_
    | refine Ex.skip ok hm ?_
    | refine Ex.region ok hm ?_
    | refine Sq.pu ok hm Want.none (by first
    | exact Pu.move rfl
    | exact Pu.neqI rfl rfl
    | exact Pu.lenL hT rfl rfl
    | exact Pu.pickF rfl (by rfl) rfl) rfl ?_
    | refine Sq.pu ok hm (by first
    | exact Want.none
    | exact Want.yes rfl rfl rfl (by rfl)) (by exact Pu.neqI rfl rfl) rfl ?_
    | refine Sq.finH (n := 20) ok hm (by repeat (first
    | exact Keep.nil
    | apply Keep.drop rfl
    | apply Keep.keep rfl)) ?_
    | refine Ex.condF ok hm rfl (by rfl) ?_))
  refine Sq.call ok Want.none (Op1.call rfl rfl fn10) rfl (FnC.mono (Unpack_ok pt (k := (l.length : Int)) hn (by simp only [InR]; omega) hpl) ?_)
  rintro x M10 ⟨b9, cap9, c9, rfl, hS9, hF9, hc9⟩
  have hg9 : l.length ≠ 0 → M10.get 0 = some (.row (l.map u64v) 1 none) := fun h => (hF9.get 0 (by omega) (by simp)).trans (hg7 h)
  by_cases hpe : pe = 0
  · have hup := hup hpe hl
    rw [hup] at hS9 ⊢
    simp only at hS9
    clear hup
    (repeat (first
    | refine Ex.seq ok hm ?_
    | refine Ex.region ok hm ?_
    | refine Sq.pu ok hm Want.none (by first
    | exact Pu.move rfl
    | exact Pu.assign rfl
    | exact Pu.extract rfl rfl
    | exact Pu.eqlI rfl rfl
    | exact Pu.neqI rfl rfl) rfl ?_
    | refine Sq.pu ok hm (by exact Want.yes rfl rfl rfl (by first
    | rfl
    | (simp; omega))) (by first
    | exact Pu.move rfl
    | exact Pu.eqlI rfl rfl) rfl ?_
    | refine Sq.finH (n := 20) ok hm (by repeat (first
    | exact Keep.nil
    | apply Keep.drop rfl
    | apply Keep.keep rfl)) ?_))
    refine Sq.call ok (by exact Want.yes rfl rfl rfl (by rfl)) (Op1.call rfl rfl fn12) rfl (FnC.mono (same_ok l l hS9 (hS0 _ hg9) (by omega) (by omega)) ?_)
    rintro x M11 ⟨rfl, rfl⟩
    rw [decide_eq_true (show l = l from rfl)]
    (repeat (first
    | refine Sq.pu ok hm Want.none (by first
    | exact Pu.move rfl
    | exact Pu.pickT rfl (by rfl) rfl
    | exact Pu.pickF rfl (by first
    | rfl
    | (simp; omega)) rfl) rfl ?_
    | refine Sq.pu ok hm (by exact Want.yes rfl rfl rfl (by first
    | rfl
    | (simp; omega))) (by exact Pu.pickT rfl (by rfl) rfl) rfl ?_))
    refine Sq.call ok (by exact Want.yes rfl rfl rfl (by rfl)) (Op1.call rfl rfl fn13) rfl (FnC.mono awake1_ok ?_)
    rintro x M12 ⟨rfl, rfl⟩
    (repeat (first
    | refine Sq.pu ok hm Want.none (by first
    | exact Pu.assign rfl
    | exact Pu.pickT rfl (by rfl) rfl) rfl ?_
    | refine Sq.finH (n := 20) ok hm (by repeat (first
    | exact Keep.nil
    | apply Keep.drop rfl
    | apply Keep.keep rfl)) ?_
    | refine Ex.ret ok hm ?_))
    exact ⟨_, .tmp rfl .nil, rfl⟩
  · (repeat (first
    | refine Ex.seq ok hm ?_
    | refine Ex.region ok hm ?_
    | refine Sq.pu ok hm Want.none (by first
    | exact Pu.move rfl
    | exact Pu.assign rfl
    | exact Pu.extract rfl rfl
    | exact Pu.neqI rfl rfl) rfl ?_
    | refine Sq.skip ok hm (by exact Want.no rfl rfl rfl (by first
    | rfl
    | (simp; omega))) rfl ?_
    | refine Sq.finH (n := 20) ok hm (by repeat (first
    | exact Keep.nil
    | apply Keep.drop rfl
    | apply Keep.keep rfl)) ?_))
    refine skipU rfl rfl rfl rfl ?_
    refine skipU rfl rfl rfl rfl ?_
    refine skipU rfl rfl rfl rfl ?_
    (repeat (first
    | refine Sq.pu ok hm Want.none (by first
    | exact Pu.move rfl
    | exact Pu.pickT rfl (by first
    | rfl
    | (simp; omega)) rfl) rfl ?_
    | refine Sq.skip ok hm (by exact Want.no rfl rfl rfl (by (simp; omega))) rfl ?_))
    refine Sq.call ok (by exact Want.yes rfl rfl rfl (by rfl)) (Op1.call rfl rfl fn13) rfl (FnC.mono awake1_ok ?_)
    rintro x M12 ⟨rfl, rfl⟩
    (repeat (first
    | refine Sq.pu ok hm Want.none (by first
    | exact Pu.assign rfl
    | exact Pu.pickT rfl (by rfl) rfl) rfl ?_
    | refine Sq.finH (n := 20) ok hm (by repeat (first
    | exact Keep.nil
    | apply Keep.drop rfl
    | apply Keep.keep rfl)) ?_
    | refine Ex.ret ok hm ?_))
    exact ⟨_, .tmp rfl .nil, rfl⟩
end Go.Proofs.Ytlhfolmhgghjcaa
