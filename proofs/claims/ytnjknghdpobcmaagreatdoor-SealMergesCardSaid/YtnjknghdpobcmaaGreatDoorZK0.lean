/- Part of a proof: see the text with the theorem. -/
import Derived.Test.YtnjknghdpobcmaaGreatDoorZPa
set_option linter.all false
namespace Go.Proofs.YtnjknghdpobcmaaGreatDoor.walk
open Go Go.Sh
set_option maxRecDepth 100000
def asI (v:Value):Option Int:=match v with | .int k n=>(match k with | .i64=>some n | _=>none) | _=>none
def asS (v:Value):Option Bs:=match v with | .string s=>some s.data.toList | _=>none
def parse1 (l:List Value):Option Nt:=match l with
 | [a,b,c,d,e,f,g,h,i]=>(asI a).bind fun a=>(asS b).bind fun b=>(asI c).bind fun c=>(asS d).bind fun d=>(asS e).bind fun e=>(asI f).bind fun f=>(asI g).bind fun g=>(asI h).bind fun h=>(asI i).bind fun i=>some ⟨a,b,c,d,e,f,g,h,i⟩
 | _=>none
def parseN:Nat→List Value→Option (List Nt)
 | 0,l=>match l with | []=>some [] | _=>none
 | n + 1,l=>match parse1 (l.take 9) with
  | some x=>match parseN n (l.drop 9) with
   | some r=>some (x::r)
   | none=>none
  | none=>none
noncomputable def F57c (args:List Value) (w:AW):Option Value:=match args with
 | [v]=>match v with
  | .slice base n _=>match base with
   | some a=>bif Nat.blt a.block w.next then (match rd w a.block a.off (n * 9) with
    | some cs=>match parseN n cs with
     | some L=>some (.bool (notesB L))
     | none=>none
    | none=>none) else none
   | none=>none
  | _=>none
 | _=>none
def F99c (args:List Value) (_:AW):Option Value:=match args with
 | [v]=>match v with
  | .string s=>some (.bool (wordB s.data.toList))
  | _=>none
 | _=>none
theorem asI_some {v:Value} {n:Int} (h:asI v=some n):v=.int .i64 n:=by
 unfold asI at h
 split at h
 ·split at h
  ·cases h; rfl
  ·cases h
 ·cases h
theorem asS_some {v:Value} {l:Bs} (h:asS v=some l):v=.string ⟨⟨l⟩⟩:=by
 unfold asS at h
 split at h
 ·cases h; rfl
 ·cases h
theorem parse1_some {l:List Value} {x:Nt} (h:parse1 l=some x):l=ntC x:=by
 unfold parse1 at h
 split at h
 ·obtain ⟨a,e1,h⟩:=Option.bind_eq_some_iff.1 h
  obtain ⟨b,e2,h⟩:=Option.bind_eq_some_iff.1 h
  obtain ⟨c,e3,h⟩:=Option.bind_eq_some_iff.1 h
  obtain ⟨d,e4,h⟩:=Option.bind_eq_some_iff.1 h
  obtain ⟨e,e5,h⟩:=Option.bind_eq_some_iff.1 h
  obtain ⟨f,e6,h⟩:=Option.bind_eq_some_iff.1 h
  obtain ⟨g,e7,h⟩:=Option.bind_eq_some_iff.1 h
  obtain ⟨k,e8,h⟩:=Option.bind_eq_some_iff.1 h
  obtain ⟨i,e9,h⟩:=Option.bind_eq_some_iff.1 h
  cases h
  rw [asI_some e1,asS_some e2,asI_some e3,asS_some e4,asS_some e5,asI_some e6,asI_some e7,asI_some e8,asI_some e9]
  rfl
 ·cases h
theorem parseN_some:∀ {n:Nat} {l:List Value} {L:List Nt},parseN n l=some L→l=L.flatMap ntC∧L.length=n
 | 0,l,L,h=>by
  unfold parseN at h
  split at h
  ·cases h; exact ⟨rfl,rfl⟩
  ·cases h
 | n + 1,l,L,h=>by
  unfold parseN at h
  cases h1:parse1 (l.take 9) with
  | none=>rw [h1] at h; cases h
  | some x =>
   rw [h1] at h
   simp only at h
   cases h2:parseN n (l.drop 9) with
   | none=>rw [h2] at h; cases h
   | some r =>
    rw [h2] at h
    cases h
    obtain ⟨e1,e2⟩:=parseN_some h2
    refine ⟨?_,by simp [e2]⟩
    rw [List.flatMap_cons,← parse1_some h1,← e1,List.take_append_drop]
theorem F57c_some {args:List Value} {w:AW} {v:Value} (h:F57c args w=some v):S57.R args w v:=by
 unfold F57c at h
 split at h
 ·rename_i u
  split at h
  ·rename_i base n c
   split at h
   ·rename_i a
    cases hb:Nat.blt a.block w.next with
    | false=>rw [hb] at h; cases h
    | true =>
     rw [hb,cond_true] at h
     have hlt:a.block < w.next:=by simpa [Nat.blt_eq] using hb
     rw [rd_eq] at h
     split at h
     ·rename_i cs hcs
      split at h
      ·rename_i L hL
       cases h
       obtain ⟨e1,e2⟩:=parseN_some hL
       subst e2
       refine ⟨_,L,rfl,.inr ⟨a.block,a.off,a.spot,c,rfl,?_,hlt⟩,rfl⟩
       unfold rdO at hcs
       cases hg:w.heap.get a.block with
       | none=>rw [hg] at hcs; cases hcs
       | some o =>
        rw [hg] at hcs
        cases o with
        | cells cl e ro =>
         simp only [cellsO_some,Option.bind_some] at hcs
         by_cases hf:a.off + L.length * 9≤cl.length
         ·rw [if_pos hf] at hcs
          cases hcs
          refine ⟨cl.take a.off,cl.drop (a.off + L.length * 9),e,ro,?_,by rw [List.length_take]; omega⟩
          rw [← e1]
          congr 2
          rw [← List.drop_drop,List.take_append_drop,List.take_append_drop]
         ·rw [if_neg hf] at hcs; cases hcs
        | _=>cases hcs
      ·cases h
     ·cases h
   ·cases h
  ·cases h
 ·cases h
theorem F99c_some {args:List Value} {w:AW} {v:Value} (h:F99c args w=some v):S99.R args w v:=by
 unfold F99c at h
 split at h
 ·split at h
  ·rename_i s
   cases h
   exact ⟨s,rfl,rfl⟩
  ·cases h
 ·cases h
def pow10:List Int:=[1,10,100,1000,10000,100000,1000000,10000000,100000000,1000000000,10000000000,100000000000,1000000000000,10000000000000,100000000000000,1000000000000000,10000000000000000,100000000000000000,1000000000000000000,10000000000000000000]
def wordsL:List Value:=[.string ⟨⟨[]⟩⟩,.string ⟨⟨[103,114,97,110,116]⟩⟩,.string ⟨⟨[98,97,99,107]⟩⟩]
def laidL:List LaidV:=[(0,wordsL,170),(2,pow10.map fun z=>Value.int .u64 z,227)]
noncomputable def noOv:Ov:=fun _ _ _=>none
noncomputable def pureOv:Ov:=ovP 57 F57c (ovP 99 F99c noOv)
end Go.Proofs.YtnjknghdpobcmaaGreatDoor.walk
