import Derived.Test.YthkinkcpfcpehaaGreatDoorZS
import Derived.Test.YthkinkcpfcpehaaGreatDoorTB
namespace Go.Proofs.YthkinkcpfcpehaaGreatDoor
open Go.RowKit
inductive ArgsP (P:Nat->Prop) (W:World):Value->List T->Prop
 | mk (a:Option Addr) (c:Nat) (l:List T) (s:Nat->Value) (hc:l.length<=c) (hm:c<=9223372036854775807)
   (at0:0<l.length->∃b o,P b∧b<W.heap.size∧a=some ⟨b,o,none⟩∧∀i (h:i<l.length),W.cell? ⟨b,o+i*3,none⟩=some (.int .i64 l[i].v)∧W.cell? ⟨b,o+i*3+1,none⟩=some (.string l[i].fn)∧W.cell? ⟨b,o+i*3+2,none⟩=some (s i))
   (sub:∀i (h:i<l.length),ArgsP P W (s i) l[i].args):ArgsP P W (.slice a l.length c) l
theorem ArgsP.args {P:Nat->Prop}{W:World}{sl:Value}{l:List T}(h:ArgsP P W sl l):ArgsAt W sl l:=by
 induction h with
 | mk a c l s hc hm at0 sub ih =>
  refine .mk a c l s hc hm (fun h0=>?_) ih
  obtain⟨b,o,_,hlt,rfl,hcell⟩:=at0 h0
  exact⟨b,o,hlt,rfl,hcell⟩
theorem ArgsP.keep {P P':Nat->Prop}{W W':World}{sl:Value}{l:List T}(h:ArgsP P W sl l)(hs:W.heap.size<=W'.heap.size)(hk:∀k,P k->k<W.heap.size->P' k∧W'.heap[k]? =W.heap[k]?):ArgsP P' W' sl l:=by
 induction h with
 | mk a c l s hc hm at0 sub ih =>
  refine .mk a c l s hc hm (fun h0=>?_) ih
  obtain⟨b,o,hn,hlt,rfl,hcell⟩:=at0 h0
  obtain⟨hp,e⟩:=hk b hn hlt
  refine⟨b,o,hp,jI hlt hs,rfl,fun i hi=>?_⟩
  obtain⟨h1,h2,h3⟩:=hcell i hi
  exact⟨(World.cell?_of_block (a:=⟨b,_,none⟩) e).trans h1,(World.cell?_of_block (a:=⟨b,_,none⟩) e).trans h2,(World.cell?_of_block (a:=⟨b,_,none⟩) e).trans h3⟩
theorem ArgsP.nil (P:Nat->Prop)(W:World):ArgsP P W (.slice none 0 0) []:=
 .mk none 0 [] (fun _=>.slice none 0 0) (jJ _) (by decide) (fun h=>absurd h (by simp)) (fun i h=>absurd h (by simp))
theorem ArgsP.slice {P:Nat->Prop}{W:World}{sl:Value}{l:List T}(h:ArgsP P W sl l):∃a c,sl=.slice a l.length c:=by
 cases h with
 | mk a c l s hc hm at0 sub=>exact⟨a,c,rfl⟩
theorem ArgsP.nth {P:Nat->Prop}{W:World}{a:Option Addr}{n c:Nat}{l:List T}(h:ArgsP P W (.slice a n c) l){i:Nat}(hi:i<l.length):∃b o s,a=some ⟨b,o,none⟩∧P b∧b<W.heap.size∧W.cell? ⟨b,o+i*3,none⟩=some (.int .i64 l[i].v)∧W.cell? ⟨b,o+i*3+1,none⟩=some (.string l[i].fn)∧W.cell? ⟨b,o+i*3+2,none⟩=some s∧ArgsP P W s l[i].args:=by
 cases h with
 | mk a c l s hc hm at0 sub =>
  obtain⟨b,o,hp,hlt,rfl,hcell⟩:=at0 (by omega)
  obtain⟨h1,h2,h3⟩:=hcell i hi
  exact⟨b,o,s i,rfl,hp,hlt,h1,h2,h3,sub i hi⟩
theorem ArgsP.slice' {P:Nat->Prop}{W:World}{sl:Value}{l:List T}(h:ArgsP P W sl l):∃a c,sl=.slice a l.length c∧l.length<=c∧c<=9223372036854775807:=by
 cases h with
 | mk a c l s hc hm at0 sub=>exact⟨a,c,rfl,hc,hm⟩
