/- The law DimacsBack. -/
import Derived.Test.YtddmanphhfjngaaDoorGA
import Derived.Test.YtddmanphhfjngaaDoorPF
import Derived.Test.YtddmanphhfjngaaDoorYD
namespace Go.Proofs.PA
open Go.Lib Go.Proofs.YtddmanphhfjngaaDoor.L
theorem clauses_len (L : List (List Int)) (K : Nat) (h : ∀ c ∈ L, (clauseT c).length ≤ K) : (L.flatMap clauseT).length ≤ L.length * K := by
  induction L with
  | nil => simp
  | cons c L ih =>
    have h1 := h c (by simp)
    have h2 := ih (fun d hd => h d (by simp [hd]))
    simp only [List.flatMap_cons, List.length_append, List.length_cons, Nat.add_mul]
    omega
theorem clause_len (c : List Int) (h : ∀ x ∈ c, (itoa x).length ≤ 21) : (clauseT c).length ≤ 22 * c.length + 2 := by
  have := lits_len c c.length (Nat.le_refl _) h
  rw [List.take_length] at this
  unfold clauseT
  rw [List.length_append]
  have e : ([48, 10] : List UInt8).length = 2 := rfl
  omega
theorem head_len (n : Int) (k : Nat) (hn : -9223372036854775808 ≤ n) (hn2 : n ≤ 9223372036854775807) (hk : k ≤ 1048576) : (headT n k).length ≤ 60 := by
  have h1 := itoa_length_le n hn hn2
  have h2 := itoa_length_le (k : Int) (by omega) (by omega)
  unfold headT
  simp; omega
end Go.Proofs.PA
namespace Go.Proofs.YtddmanphhfjngaaDoor
open Go.RowKit PA
namespace L
open K

/-- What Fit gives can be written and read. -/
structure Good (V : Int) (L : List (List Int)) : Prop where
  i64 : ∀ l ∈ L, ∀ x ∈ l, I64 x
  chk : checkF V L = 0
  len : (textT V L).length ≤ 65536
  v0 : 0 ≤ V
  v1 : V ≤ 1048576
  fmt : fmtS V L = (textT V L, 0)
  prs : parseS (textT V L) = (V, L, 0, 0)
  sm : L.length ≤ 30
  smc : ∀ l ∈ L, l.length ≤ 20
theorem good_fit {V : Int} {L : List (List Int)} (h1 : 1 ≤ V) (h2 : V ≤ 1000) (h : fitOk L = true) : Good V (fitL V L) := by
  have hi := fit_i64 (L := L) h1 h2
  have hck := fit_check h1 h2 h
  obtain ⟨hl, hlc⟩ := fit_len (V := V) h
  have hcl := clauses_len (fitL V L) 442 (fun c hc => by
    have := clause_len c (fun x hx => by have := hi c hc x hx; exact Lib.itoa_length_le x this.1 this.2)
    have := hlc c hc
    omega)
  have hhd := head_len V (fitL V L).length (by omega) (by omega) (by omega)
  have hlen : (textT V (fitL V L)).length ≤ 65536 := by
    unfold textT
    rw [List.length_append]
    have : (fitL V L).length * 442 ≤ 30 * 442 := Nat.mul_le_mul_right _ hl
    omega
  have hco : ∀ c ∈ fitL V L, ClauseOk V c := by
    intro c hc
    refine ⟨by have := hlc c hc; omega, fun x hx => ?_⟩
    obtain ⟨l', _, rfl⟩ := fitL_mem hc
    have := fitC_mem h1 h2 x hx
    refine ⟨this.1, ?_⟩
    have h3 := this.2.1
    unfold av at h3
    split at h3 <;> omega
  exact ⟨hi, hck, hlen, by omega, by omega, by unfold fmtS; rw [if_neg (by omega), if_neg (by omega)], parse_text V _ (by omega) (by omega) (by omega) hco hlen, hl, hlc⟩
end L
end Go.Proofs.YtddmanphhfjngaaDoor
